/- Several texts in one: LK0, LI, QN, FW0. -/
import Derived.Test.YtoafleckcjanaaaKLk16
import Derived.Test.YtoafleckcjanaaaKLk12
import Derived.Test.YtoafleckcjanaaaKLk11
import Derived.Test.YtoafleckcjanaaaKLk9
import Derived.Test.YtoafleckcjanaaaKLk19
import Derived.Test.YtoafleckcjanaaaKLk15
import Derived.RangeFuncNested
import Derived.RangeFuncBound
import Derived.RangeFuncCalls
import Derived.RangeFuncLeaves
import Derived.Shelf.Abstract
import Derived.Shelf.RegionOpen
import Derived.WalkKit
import Derived.OwnWalkIn
import Derived.TacticsInMore
import Derived.LoopNIn
import Derived.LoopIn
import Derived.Test.YtoafleckcjanaaaKLk8
import Derived.Test.YtoafleckcjanaaaKLk5

/-! LK0: Steps of a proof as plain data: what a link makes of a term, where a list of links leads. Definitions and plain lemmas. -/
namespace Go.Proofs.Ytoafleckcjanaaa
open Go.RowKit Go.Deep

/-- A link: the equation, whether back, the place, what variables stand for. -/
abbrev Lk := Int × Bool × List Int × List Bd
def sidesR (e : Eqd) (back : Bool) : Tm3 × Tm3 := if back = true then (e.2, e.1) else (e.1, e.2)
def put3 (σ : Int → Option Tm3) (t : Tm3) : Tm3 := tsub σ t.1 t.2.1 t.2.2
/-- What stands at a place being f, it becomes g. -/
def lkAt (t : Tm3) (pl : List Int) (f g : Tm3) : Option Tm3 :=
  match fat t.1 t.2.1 t.2.2 pl with
  | none => none
  | some h => if teq h.1 h.2.1 h.2.2 f.1 f.2.1 f.2.2 = true then
      (match fput t.1 t.2.1 t.2.2 pl g with
        | none => none
        | some out => if okT3 64 out = true then some out else none)
    else none
/-- A link done at a term of a proof, the equations being valid. -/
def lk1 (es : List Eqd) (t : Tm3) (l : Lk) : Option Tm3 :=
  if sok 64 l.2.2.2 = true ∧ 0 ≤ l.1 ∧ l.1 < (es.length : Int) then
    (es[l.1.toNat]?).bind fun e => lkAt t l.2.2.1 (put3 (sv l.2.2.2) (sidesR e l.2.1).1) (put3 (sv l.2.2.2) (sidesR e l.2.1).2)
  else none
def lkR (es : List Eqd) (t : Tm3) (l : Lk) : Option Tm3 := if okEs es = true ∧ okT3 64 t = true then lk1 es t l else none
/-- Links one behind the other. -/
def lkF (es : List Eqd) : Tm3 → List Lk → Option Tm3
  | t, [] => some t
  | t, l :: r => (lk1 es t l).bind fun x => lkF es x r
def prR (es : List Eqd) (t : Tm3) (ls : List Lk) : Option Tm3 := if okEs es = true ∧ okT3 64 t = true ∧ ls.length ≤ 40 then lkF es t ls else none
def t0 : Tm3 := (0, 0, .nil)
/-- What is answered. -/
def ansR (r : Option Tm3) : Tm3 × Bool := match r with
  | some t => (t, true)
  | none => (t0, false)

theorem lkF_append (es : List Eqd) : ∀ (t : Tm3) (l1 l2 : List Lk), lkF es t (l1 ++ l2) = (lkF es t l1).bind fun x => lkF es x l2
  | t, [], l2 => rfl
  | t, l :: r, l2 => by
    simp only [List.cons_append, lkF]
    cases lk1 es t l with
    | none => rfl
    | some x => exact lkF_append es x r l2
theorem lkF_one (es : List Eqd) (t : Tm3) (l : Lk) : lkF es t [l] = lk1 es t l := by
  simp only [lkF]
  cases lk1 es t l <;> rfl
theorem prR_one {es : List Eqd} {t : Tm3} {l : Lk} : prR es t [l] = lkR es t l := by
  unfold prR lkR
  rw [lkF_one]
  by_cases h : okEs es = true ∧ okT3 64 t = true
  · rw [if_pos ⟨h.1, h.2, by simp⟩, if_pos h]
  · rw [if_neg (fun h' => h ⟨h'.1, h'.2.1⟩), if_neg h]

/-- How many leaves. -/
def lvs : Fo → Nat
  | .nil => 0
  | .node _ _ _ .nil r => 1 + lvs r
  | .node _ _ _ (.node x y p k r') r => lvs (.node x y p k r') + lvs r
theorem flen_two {s v : Int} {k : Fo} (h : okN s v (flen k) = true) : flen k ≤ 2 := by
  have := ((okN_iff _ _ _).1 h).1
  unfold ar at this
  split at this
  · omega
  · split at this
    · omega
    · split at this <;> omega
theorem lvs_le : ∀ k : Fo, fok k = true → 2 * lvs k ≤ fsz k + flen k
  | .nil, _ => Nat.zero_le _
  | .node _ _ _ .nil r, h => by
    simp only [fok, Bool.and_eq_true] at h
    have := lvs_le r h.2
    simp only [lvs, fsz, flen]; omega
  | .node _ _ _ (.node x y p k r') r, h => by
    simp only [fok, Bool.and_eq_true] at h
    have h1 := lvs_le r h.2
    have h2 := lvs_le (.node x y p k r') (by simp only [fok, Bool.and_eq_true]; exact h.1.2)
    have h3 := flen_two h.1.1
    simp only [lvs, fsz, flen] at h2 h3 ⊢; omega
theorem fsub_small {σ : Int → Option Tm3} {m : Nat} (hσ : ∀ x t, σ x = some t → fsz t.2.2 ≤ m) : ∀ k : Fo, fok k = true → fsz (fsub σ k) ≤ fsz k + m * lvs k
  | .nil, _ => Nat.zero_le _
  | .node x y p .nil r, h => by
    simp only [fok, Bool.and_eq_true] at h
    have h1 := fsub_small hσ r h.2
    simp only [fsub]
    split
    · split
      · rename_i t ht
        have := hσ _ _ ht
        simp only [fsz, lvs, Nat.mul_add]; omega
      · simp only [fsz, lvs, Nat.mul_add]; omega
    · simp only [fsz, lvs, Nat.mul_add]; omega
  | .node x y p (.node x' y' p' k r') r, h => by
    simp only [fok, Bool.and_eq_true] at h
    have h1 := fsub_small hσ r h.2
    have h2 := fsub_small hσ (.node x' y' p' k r') (by simp only [fok, Bool.and_eq_true]; exact h.1.2)
    have hs : p.1 ≠ 0 := fun e => by
      have := ((okN_iff _ _ _).1 h.1.1).1
      rw [e] at this
      simp [ar, flen] at this
      omega
    rw [fsub, if_neg hs]
    simp only [fsz, lvs, Nat.mul_add] at h2 ⊢; omega
theorem sok_sz {room : Int} : ∀ {bs : List Bd} {last : Int}, sokFrom room last bs = true → ∀ x ∈ bs, okW x.2.1 x.2.2.1 x.2.2.2 room = true
  | [], _, _, _, hx => by cases hx
  | y :: r, last, h, x, hx => by
    simp only [sokFrom, Bool.and_eq_true] at h
    rcases List.mem_cons.1 hx with rfl | hx
    · exact h.1
    · exact sok_sz h.2.2.2 x hx
theorem sv_in : ∀ {bs : List Bd} {v : Int} {t : Tm3}, sv bs v = some t → (v, t) ∈ bs
  | [], _, _, h => by simp [sv] at h
  | x :: r, v, t, h => by
    simp only [sv] at h
    split at h
    · rename_i e
      simp only [Option.some.injEq] at h
      subst h
      subst e
      exact List.mem_cons_self
    · exact List.mem_cons_of_mem _ (sv_in h)
theorem sok_ok {room : Int} {bs : List Bd} (h : sok room bs = true) {x : Int} {t : Tm3} (ht : sv bs x = some t) : okT3 room t = true := sok_sz h _ (sv_in ht)
/-- What is put into an equation's side is not too large for the walks. -/
theorem put3_small {bs : List Bd} (h : sok 64 bs = true) {t : Tm3} (ht : okT3 16 t = true) : fsz (put3 (sv bs) t).2.2 ≤ 1000 := by
  have hσ : ∀ x t, sv bs x = some t → fsz t.2.2 ≤ 63 := fun x u hu => by
    have := ((okW_iff _ _ _ _).1 (sok_ok h hu)).2.2
    omega
  obtain ⟨h1, h2, h3⟩ := (okW_iff _ _ _ _).1 ht
  unfold put3 tsub
  split
  · cases hv : sv bs t.2.1 with
    | none => simp only [Option.getD_none]; omega
    | some u => have := hσ _ _ hv; simp only [Option.getD_some]; omega
  · have a1 := fsub_small hσ t.2.2 h2
    have a2 := lvs_le t.2.2 h2
    have a3 := flen_two h1
    dsimp only
    omega
theorem put3_ok {bs : List Bd} {room : Int} (h : sok room bs = true) {t : Tm3} (h1 : okN t.1 t.2.1 (flen t.2.2) = true) (h2 : fok t.2.2 = true) : okN (put3 (sv bs) t).1 (put3 (sv bs) t).2.1 (flen (put3 (sv bs) t).2.2) = true ∧ fok (put3 (sv bs) t).2.2 = true := by
  have hok : ∀ k : Fo, fok k = true → fok (fsub (sv bs) k) = true := fun k => by
    induction k with
    | nil => intro _; rfl
    | node x y p k r ihk ihr =>
      intro h
      simp only [fok, Bool.and_eq_true] at h
      simp only [fsub]
      split
      · split
        · rename_i t ht
          have := (okW_iff _ _ _ _).1 (sok_ok ‹sok room bs = true› ht)
          simp only [fok, this.1, this.2.1, ihr h.2, Bool.and_self]
        · simp only [fok, h.1.1, h.1.2, ihr h.2, Bool.and_self]
      · simp only [fok, fsub_len, h.1.1, ihk h.1.2, ihr h.2, Bool.and_self]
  unfold put3 tsub
  split
  · cases hv : sv bs t.2.1 with
    | none => exact ⟨h1, h2⟩
    | some u =>
      have := (okW_iff _ _ _ _).1 (sok_ok h hv)
      exact ⟨this.1, this.2.1⟩
  · dsimp only
    rw [fsub_len]
    exact ⟨h1, hok _ h2⟩
theorem sides_ok {es : List Eqd} (h : okEs es = true) {i : Nat} {e : Eqd} (hi : es[i]? = some e) (b : Bool) : okT3 16 (sidesR e b).1 = true ∧ okT3 16 (sidesR e b).2 = true := by
  have := ((okEs_iff es).1 h).2 e (List.mem_of_getElem? hi)
  simp only [okE, Bool.and_eq_true] at this
  unfold sidesR
  split
  · exact ⟨this.2, this.1⟩
  · exact this
/-- A done link leaves a term of a proof. -/
theorem lkAt_ok {t x : Tm3} {pl : List Int} {f g : Tm3} (h : lkAt t pl f g = some x) : okT3 64 x = true := by
  unfold lkAt at h
  split at h
  · cases h
  · split at h
    · split at h
      · cases h
      · split at h
        · rename_i hx
          simp only [Option.some.injEq] at h
          subst h
          exact hx
        · cases h
    · cases h
theorem lk1_ok {es : List Eqd} {t x : Tm3} {l : Lk} (h : lk1 es t l = some x) : okT3 64 x = true := by
  unfold lk1 at h
  split at h
  · obtain ⟨e, _, h⟩ := Option.bind_eq_some_iff.1 h
    exact lkAt_ok h
  · cases h
end Go.Proofs.Ytoafleckcjanaaa

/-! LI: Rows of links in memory; what goes through them, for a loop over a function. -/
namespace Go.Proofs.Ytoafleckcjanaaa
open Go.RowKit Go.Deep Go.Shelf

/-- A slice's address at which the links ls lie. -/
def LSl (w : World) (lo B : Nat) (a : Option Addr) (ls : List Lk) : Prop :=
  ls = [] ∨ ∃ b o, a = some ⟨b, o, none⟩ ∧ lo ≤ b ∧ b < B ∧ ∀ (i : Nat) (x : Lk), ls[i]? = some x → ∃ pA pC sA sC, w.cell? ⟨b, o + i * 4, none⟩ = some (.int .i64 x.1) ∧ w.cell? ⟨b, o + i * 4 + 1, none⟩ = some (.bool x.2.1) ∧ w.cell? ⟨b, o + i * 4 + 2, none⟩ = some (.slice pA x.2.2.1.length pC) ∧ w.cell? ⟨b, o + i * 4 + 3, none⟩ = some (.slice sA x.2.2.2.length sC) ∧ ISc w lo B pA pC x.2.2.1 ∧ BSl w lo B sA x.2.2.2
theorem LSl.same {w w' : World} {lo B : Nat} {a : Option Addr} {ls : List Lk} (hb : Same lo B w w') (h : LSl w lo B a ls) : LSl w' lo B a ls := by
  rcases h with h | ⟨b, o, e, h1, h2, h3⟩
  · exact .inl h
  · refine .inr ⟨b, o, e, h1, h2, fun i x hx => ?_⟩
    obtain ⟨pA, pC, sA, sC, c0, c1, c2, c3, hl, hl2⟩ := h3 i x hx
    exact ⟨pA, pC, sA, sC, by rw [hb.cell h1 h2]; exact c0, by rw [hb.cell h1 h2]; exact c1, by rw [hb.cell h1 h2]; exact c2, by rw [hb.cell h1 h2]; exact c3, hl.same hb, hl2.same hb⟩
theorem LSl.mono {w : World} {lo lo' B B' : Nat} {a : Option Addr} {ls : List Lk} (hlo : lo' ≤ lo) (hB : B ≤ B') (h : LSl w lo B a ls) : LSl w lo' B' a ls := by
  rcases h with h | ⟨b, o, e, h1, h2, h3⟩
  · exact .inl h
  · refine .inr ⟨b, o, e, by omega, by omega, fun i x hx => ?_⟩
    obtain ⟨pA, pC, sA, sC, c0, c1, c2, c3, hl, hl2⟩ := h3 i x hx
    exact ⟨pA, pC, sA, sC, c0, c1, c2, c3, hl.mono hlo hB, hl2.mono hlo hB⟩
theorem LSl.below {w w' : World} {lo B : Nat} {a : Option Addr} {ls : List Lk} (hb : Below B w w') (h : LSl w lo B a ls) : LSl w' lo B a ls := h.same (Same.of_below hb)
theorem LSl.next {w w' : World} {a : Option Addr} {ls : List Lk} (h : LSl w 0 w.heap.size a ls) (hb : Below w.heap.size w w') : LSl w' 0 w'.heap.size a ls := (h.below hb).mono (Nat.le_refl _) hb.size

/-- Where a link's place and binds lie. -/
abbrev Ld := Option Addr × Nat × Option Addr × Nat
def lval (x : Lk) (d : Ld) : Value := .agg #[.int .i64 x.1, .bool x.2.1, .slice d.1 x.2.2.1.length d.2.1, .slice d.2.2.1 x.2.2.2.length d.2.2.2]
/-- The cells of a row of links, the addresses given. -/
def LRow (w : World) (b o : Nat) (ls : List Lk) (f : Nat → Ld) : Prop :=
  ∀ (i : Nat) (x : Lk), ls[i]? = some x → w.cell? ⟨b, o + i * 4, none⟩ = some (.int .i64 x.1) ∧ w.cell? ⟨b, o + i * 4 + 1, none⟩ = some (.bool x.2.1) ∧ w.cell? ⟨b, o + i * 4 + 2, none⟩ = some (.slice (f i).1 x.2.2.1.length (f i).2.1) ∧ w.cell? ⟨b, o + i * 4 + 3, none⟩ = some (.slice (f i).2.2.1 x.2.2.2.length (f i).2.2.2)
theorem LSl.row {w : World} {lo B : Nat} {a : Option Addr} {ls : List Lk} (h : LSl w lo B a ls) (hne : 0 < ls.length) : ∃ b o f, a = some ⟨b, o, none⟩ ∧ b < B ∧ LRow w b o ls f ∧ ∀ (i : Nat) (x : Lk), ls[i]? = some x → ISc w lo B (f i).1 (f i).2.1 x.2.2.1 ∧ BSl w lo B (f i).2.2.1 x.2.2.2 := by
  rcases h with rfl | ⟨b, o, e, h1, h2, h3⟩
  · simp at hne
  · have h4 : ∀ i : Nat, ∃ d : Ld, ∀ x, ls[i]? = some x → (w.cell? ⟨b, o + i * 4, none⟩ = some (.int .i64 x.1) ∧ w.cell? ⟨b, o + i * 4 + 1, none⟩ = some (.bool x.2.1) ∧ w.cell? ⟨b, o + i * 4 + 2, none⟩ = some (.slice d.1 x.2.2.1.length d.2.1) ∧ w.cell? ⟨b, o + i * 4 + 3, none⟩ = some (.slice d.2.2.1 x.2.2.2.length d.2.2.2)) ∧ ISc w lo B d.1 d.2.1 x.2.2.1 ∧ BSl w lo B d.2.2.1 x.2.2.2 := fun i => by
      cases hx : ls[i]? with
      | none => exact ⟨(none, 0, none, 0), fun x h => by cases h⟩
      | some y =>
        obtain ⟨pA, pC, sA, sC, c0, c1, c2, c3, hl, hl2⟩ := h3 i y hx
        exact ⟨(pA, pC, sA, sC), fun x h => by cases h; exact ⟨⟨c0, c1, c2, c3⟩, hl, hl2⟩⟩
    obtain ⟨f, hf⟩ := Classical.axiomOfChoice h4
    exact ⟨b, o, f, e, h2, fun i x hx => (hf i x hx).1, fun i x hx => (hf i x hx).2⟩
/-- The i-th link's value. -/
def lenc (ls : List Lk) (f : Nat → Ld) (i : Fin ls.length) : Array Value := #[lval ls[i] (f i)]
/-- What a round keeps. -/
def LKp (n₀ B1 B2 : Nat) (W W' : World) : Prop := Below n₀ W W' ∧ W'.heap[B1]? = W.heap[B1]? ∧ W'.heap[B2]? = W.heap[B2]?
theorem LKp.trans {n₀ B1 B2 : Nat} {A B C : World} (h : LKp n₀ B1 B2 A B) (k : LKp n₀ B1 B2 B C) : LKp n₀ B1 B2 A C := ⟨h.1.trans k.1, k.2.1.trans h.2.1, k.2.2.trans h.2.2⟩
theorem LKp.book {n₀ B1 B2 : Nat} {w : World} (hn : n₀ ≤ w.heap.size) (h1 : B1 < w.heap.size) (h2 : B2 < w.heap.size) (W : World) (l : Nat) (o o' : Obj) (hl : w.heap.size ≤ l) (h : W.heap[l]? = some o) (hc : o.isCells = false) (hw : o.isWalk = false) : LKp n₀ B1 B2 W (W.putObj l o') :=
  ⟨belowK_b hn W l o o' hl h hc hw, World.putObj_heap_other (by omega), World.putObj_heap_other (by omega)⟩

attribute [local go_sem] Oper.semAt_some
/-- How many come first: those from the head, or those from the end. -/
def lsq (back : Bool) (ls : List Lk) : List Lk := if back = true then ls.reverse else ls
theorem lsq_false (ls : List Lk) : lsq false ls = ls := rfl
theorem lsq_true (ls : List Lk) : lsq true ls = ls.reverse := rfl

set_option maxRecDepth 100000 in
set_option maxHeartbeats 2000000 in
theorem links1_in (F : Fence) (n : Nat) (hf : F.fn 94) (hro : F.round = none) (hn : 1 ≤ n) (l B1 B2 n₀ b o C : Nat) (back : Bool) (ls : List Lk) (f : Nat → Ld) (hll : ls.length ≤ 1000000) (hb : b < n₀) (J Jx : List (Fin ls.length) → World → Prop)
    (hY : ∀ pre x W, J pre W → pre.length < ls.length → YieldAt F (n - 1) Try.prog l (lenc ls f x) W fun e W' =>
      (e = .returned (.bool true) ∧ J (pre ++ [x]) W' ∧ LKp n₀ B1 B2 W W') ∨ (e = .returned (.bool false) ∧ Jx (pre ++ [x]) W'))
    (W : World) (hB1 : W.cell? ⟨B1, 0, none⟩ = some (.slice (some ⟨b, o, none⟩) ls.length C)) (hB2 : W.cell? ⟨B2, 0, none⟩ = some (.bool back)) (hc : LRow W b o ls f) (h0 : J [] W) :
    CallsIn F n Try.prog 94 #[.func (.yield l) #[] #[], .pointer (some ⟨B1, 0, none⟩), .pointer (some ⟨B2, 0, none⟩)] W fun e W' => (∃ v, e = .returned v) ∧
      ((∃ ys : List (Fin ls.length), ys.map (fun i => ls[i]) = lsq back ls ∧ J ys W') ∨ (∃ pre : List (Fin ls.length), pre.map (fun i => ls[i]) <+: lsq back ls ∧ Jx pre W')) := by
  refine callsIn_of_wp Try.func94 rfl hf ?_ hro
  simp only [Try.ntmps94, List.size_toArray, List.length_cons, List.length_nil, Nat.reduceAdd, Nat.reduceSub, Array.replicate_succ, Array.replicate_zero, List.push_toArray, List.append_toArray, List.nil_append, List.cons_append]
  gi_wp2
  gi_loopw [7] (fun i wr => ∃ (k : Nat) (pre : List (Fin ls.length)), k ≤ ls.length ∧ i = .int .i64 k ∧ pre.length = k ∧ pre.map (fun i => ls[i]) = (lsq back ls).take k ∧ J pre wr ∧ LKp n₀ B1 B2 W wr) (fun i _ => ls.length - (intOf i).toNat)
  case atStart => exact ⟨0, [], Nat.zero_le _, rfl, rfl, by simp, h0, Below.refl _ _, rfl, rfl⟩
  case round =>
    obtain ⟨k, pre, hk, rfl, hpl, hpm, hJs, hnx⟩ := hrel
    have q1 : wr.cell? ⟨B1, 0, none⟩ = some (.slice (some ⟨b, o, none⟩) ls.length C) := (World.cell?_of_block (a := ⟨B1, 0, none⟩) hnx.2.1).trans hB1
    have q2 : wr.cell? ⟨B2, 0, none⟩ = some (.bool back) := (World.cell?_of_block (a := ⟨B2, 0, none⟩) hnx.2.2).trans hB2
    by_cases hlt : k < ls.length
    · have hrow : ∀ (i : Nat) (hi : i < ls.length), wr.cell? ⟨b, o + i * 4, none⟩ = some (.int .i64 ls[i].1) ∧ wr.cell? ⟨b, o + i * 4 + 1, none⟩ = some (.bool ls[i].2.1) ∧ wr.cell? ⟨b, o + i * 4 + 2, none⟩ = some (.slice (f i).1 ls[i].2.2.1.length (f i).2.1) ∧ wr.cell? ⟨b, o + i * 4 + 3, none⟩ = some (.slice (f i).2.2.1 ls[i].2.2.2.length (f i).2.2.2) := fun i hi => by
        obtain ⟨c0, c1, c2, c3⟩ := hc i ls[i] (List.getElem?_eq_getElem hi)
        exact ⟨(hnx.1.cell (p := ⟨b, _, none⟩) hb).trans c0, (hnx.1.cell (p := ⟨b, _, none⟩) hb).trans c1, (hnx.1.cell (p := ⟨b, _, none⟩) hb).trans c2, (hnx.1.cell (p := ⟨b, _, none⟩) hb).trans c3⟩
      cases back with
      | false =>
        obtain ⟨fn, tmps, assign, body, hy, hR⟩ := hY pre ⟨k, hlt⟩ wr hJs (by rw [hpl]; exact hlt)
        obtain ⟨c0, c1, c2, c3⟩ := hrow k hlt
        simp only [lenc, lval, Fin.getElem_fin] at hy
        gi_wp2
        refine hR.mono ?_
        rintro e W3 (⟨rfl, hJ3, hk3⟩ | ⟨rfl, hJx3⟩)
        · gi_wp2
          go_roundw
          case rel => exact ⟨k + 1, pre ++ [⟨k, hlt⟩], by omega, by simp, by simp [hpl], (by rw [List.map_append, hpm, lsq_false, List.take_succ_eq_append_getElem hlt]; rfl), hJ3, hnx.trans hk3⟩
          case measure => simp [intOf]; omega
        · gi_wp2
          refine bodyPost_ret (results_none rfl _ _ _) rfl ?_
          exact ⟨⟨_, rfl⟩, .inr ⟨_, (by rw [List.map_append, hpm, lsq_false]; exact (show _ = ls.take (k + 1) by rw [List.take_succ_eq_append_getElem hlt]) ▸ List.take_prefix _ _), hJx3⟩⟩
      | true =>
        have hlt2 : ls.length - 1 - k < ls.length := by omega
        obtain ⟨fn, tmps, assign, body, hy, hR⟩ := hY pre ⟨ls.length - 1 - k, hlt2⟩ wr hJs (by rw [hpl]; exact hlt)
        obtain ⟨c0, c1, c2, c3⟩ := hrow (ls.length - 1 - k) hlt2
        simp only [lenc, lval, Fin.getElem_fin] at hy
        have hi1 : ((ls.length : Int) - 1 - k) = ((ls.length - 1 - k : Nat) : Int) := by omega
        gi_wp2
        refine hR.mono ?_
        rintro e W3 (⟨rfl, hJ3, hk3⟩ | ⟨rfl, hJx3⟩)
        · gi_wp2
          go_roundw
          case rel => exact ⟨k + 1, pre ++ [⟨ls.length - 1 - k, hlt2⟩], by omega, by simp, by simp [hpl], (by rw [List.map_append, hpm, lsq_true, List.take_succ_eq_append_getElem (l := ls.reverse) (by simpa using hlt), List.getElem_reverse]; rfl), hJ3, hnx.trans hk3⟩
          case measure => simp [intOf]; omega
        · gi_wp2
          refine bodyPost_ret (results_none rfl _ _ _) rfl ?_
          exact ⟨⟨_, rfl⟩, .inr ⟨_, (by rw [List.map_append, hpm, lsq_true]; exact (show _ = ls.reverse.take (k + 1) by rw [List.take_succ_eq_append_getElem (l := ls.reverse) (by simpa using hlt), List.getElem_reverse]) ▸ List.take_prefix _ _), hJx3⟩⟩
    · obtain rfl : k = ls.length := by omega
      gi_wp2
      go_end0
      refine ⟨⟨_, rfl⟩, .inl ⟨pre, ?_, hJs⟩⟩
      rw [hpm, List.take_of_length_le (by simp [lsq]; split <;> simp)]

set_option maxRecDepth 100000 in
set_option maxHeartbeats 1000000 in
theorem links1_none (F : Fence) (n : Nat) (hf : F.fn 94) (hro : F.round = none) (l B1 B2 : Nat) (A : Option Addr) (C : Nat) (ls : List Lk) (J : List (Fin ls.length) → World → Prop) (hls : ls.length = 0)
    (W : World) (hB1 : W.cell? ⟨B1, 0, none⟩ = some (.slice A ls.length C)) (h0 : J [] W) :
    CallsIn F n Try.prog 94 #[.func (.yield l) #[] #[], .pointer (some ⟨B1, 0, none⟩), .pointer (some ⟨B2, 0, none⟩)] W fun e W' => (∃ v, e = .returned v) ∧ J [] W' := by
  rw [hls] at hB1
  refine callsIn_of_wp Try.func94 rfl hf ?_ hro
  simp only [Try.ntmps94, List.size_toArray, List.length_cons, List.length_nil, Nat.reduceAdd, Nat.reduceSub, Array.replicate_succ, Array.replicate_zero, List.push_toArray, List.append_toArray, List.nil_append, List.cons_append]
  gi_wp2
  gi_loopw [7] (fun i wr => i = .int .i64 0 ∧ J [] wr) (fun _ _ => 0)
  case atStart => exact ⟨rfl, h0⟩
  case round =>
    obtain ⟨rfl, hJs⟩ := hrel
    gi_wp2
    go_end0
    exact ⟨⟨_, rfl⟩, hJs⟩

set_option maxHeartbeats 1000000 in
/-- What linksOf hands back: both of its arguments in boxes. -/
theorem linksOf_in (F : Fence) (n : Nat) (h5 : F.fn 73) (hro : F.round = none) (A : Option Addr) (len C : Nat) (back : Bool) (w : World) :
    CallsIn F n Try.prog 73 #[.slice A len C, .bool back] w fun e w' => e = .returned (.func (.func 94) #[] #[.pointer (some ⟨w.heap.size, 0, none⟩), .pointer (some ⟨w.heap.size + 1, 0, none⟩)]) ∧ w' = (w.alloc (.cells #[.slice A len C] 53)).alloc (.cells #[.bool back] 4) := by
  refine callsIn_of_wp Try.func73 rfl h5 ?_ hro
  simp only [Try.ntmps73, List.size_toArray, List.length_cons, List.length_nil, Nat.reduceAdd, Nat.reduceSub, Array.replicate_succ, Array.replicate_zero, List.push_toArray, List.append_toArray, List.nil_append, List.cons_append]
  gi_wp2
  go_ret
  exact ⟨by simp, rfl⟩

/-- A row of links comes out whole, in order, or in part. -/
theorem links_stops (F : Fence) (n : Nat) (hf : F.fn 94) (hro : F.round = none) (hn : 1 ≤ n) (B1 B2 n₀ : Nat) (A : Option Addr) (C : Nat) (back : Bool) (ls : List Lk) (f : Nat → Ld) (hll : ls.length ≤ 1000000) (w : World)
    (hB1 : w.cell? ⟨B1, 0, none⟩ = some (.slice A ls.length C)) (hB2 : w.cell? ⟨B2, 0, none⟩ = some (.bool back)) (hn₀ : n₀ ≤ w.heap.size)
    (hc : ls = [] ∨ ∃ b o, A = some ⟨b, o, none⟩ ∧ b < n₀ ∧ LRow w b o ls f) :
    SeqStopsK F n Try.prog 94 #[.pointer (some ⟨B1, 0, none⟩), .pointer (some ⟨B2, 0, none⟩)] (lenc ls f) (LKp n₀ B1 B2) (fun ys => ys.map (fun i => ls[i]) = lsq back ls) (fun pre => pre.map (fun i => ls[i]) <+: lsq back ls) ls.length w := fun l J Jx W hW _ _ hY h0 => by
  have hb1 : B1 < w.heap.size := World.block_lt_of_cell? _ _ hB1
  have hb2 : B2 < w.heap.size := World.block_lt_of_cell? _ _ hB2
  have q1 := (hW.cell (p := ⟨B1, 0, none⟩) hb1).trans hB1
  have q2 := (hW.cell (p := ⟨B2, 0, none⟩) hb2).trans hB2
  rcases hc with rfl | ⟨b, o, rfl, hb, hc⟩
  · refine (links1_none F n hf hro l B1 B2 A C [] J rfl W q1 h0).mono ?_
    rintro e W' ⟨he, hj⟩
    exact ⟨he, .inl ⟨[], by simp [lsq], hj⟩⟩
  · refine links1_in F n hf hro hn l B1 B2 n₀ b o C back ls f hll hb J Jx hY W q1 q2 (fun i x hx => ?_) h0
    obtain ⟨c0, c1, c2, c3⟩ := hc i x hx
    have hbb : b < w.heap.size := by omega
    exact ⟨(hW.cell (p := ⟨b, _, none⟩) hbb).trans c0, (hW.cell (p := ⟨b, _, none⟩) hbb).trans c1, (hW.cell (p := ⟨b, _, none⟩) hbb).trans c2, (hW.cell (p := ⟨b, _, none⟩) hbb).trans c3⟩
end Go.Proofs.Ytoafleckcjanaaa

/-! QN: - equationsOf; the program's EqsOk. -/
namespace Go.Proofs.Ytoafleckcjanaaa
open Go.RowKit Go.Deep

/-- A slice's address at which the equations' nodes lie. -/
def QSl (w : World) (a : Option Addr) (es : List Eqd) : Prop :=
  es = [] ∨ ∃ b, a = some ⟨b, 0, none⟩ ∧ ∀ (i : Nat) (x : Eqd), es[i]? = some x → ∃ n1 n2, w.cell? ⟨b, i * 2, none⟩ = some n1 ∧ w.cell? ⟨b, i * 2 + 1, none⟩ = some n2 ∧ NodeIs w 0 w.heap.size n1 x.1.1 x.1.2.1 x.1.2.2 ∧ NodeIs w 0 w.heap.size n2 x.2.1 x.2.2.1 x.2.2.2
theorem QSl.next {w w' : World} {a : Option Addr} {es : List Eqd} (h : QSl w a es) (hb : Below w.heap.size w w') : QSl w' a es := by
  rcases h with h | ⟨b, e, h⟩
  · exact .inl h
  · refine .inr ⟨b, e, fun i x hx => ?_⟩
    obtain ⟨n1, n2, c1, c2, h1, h2⟩ := h i x hx
    exact ⟨n1, n2, cell_low hb c1, cell_low hb c2, (h1.below hb).mono (Nat.le_refl _) hb.size, (h2.below hb).mono (Nat.le_refl _) hb.size⟩
/-- The first j equations' nodes are laid. -/
structure QAt (w : World) (es : List Eqd) (g j : Nat) (wr : World) : Prop where
  below : Below w.heap.size w wr
  new : w.heap.size ≤ g
  lt : g < wr.heap.size
  row : ∃ f : Nat → Value, wr.rowIs g 138 (es.length * 2) f ∧ (∀ i, j * 2 ≤ i → i < es.length * 2 → f i = .nilIface) ∧ ∀ (i : Nat) (x : Eqd), i < j → es[i]? = some x → NodeIs wr 0 wr.heap.size (f (i * 2)) x.1.1 x.1.2.1 x.1.2.2 ∧ NodeIs wr 0 wr.heap.size (f (i * 2 + 1)) x.2.1 x.2.2.1 x.2.2.2
theorem QAt.start (w : World) (es : List Eqd) : QAt w es w.heap.size 0 (w.alloc (.cells (madeCells #[.nilIface, .nilIface] (es.length * 2)) 138)) := by
  refine ⟨(Below.refl _ _).alloc (Nat.le_refl _) _, Nat.le_refl _, by simp, fun _ => .nilIface, ?_, fun _ _ _ => rfl, fun i x hi => by omega⟩
  have := World.rowIs_alloc w (madeCells #[.nilIface, .nilIface] (es.length * 2)) 138 (fun _ => .nilIface) (fun i hi => by
    rw [size_madeCells] at hi
    rw [made_atA _ _ _ hi]
    have : i % (#[Value.nilIface, .nilIface] : Array Value).size = 0 ∨ i % (#[Value.nilIface, .nilIface] : Array Value).size = 1 := by simp; omega
    rcases this with h | h <;> rw [h] <;> rfl)
  rw [size_madeCells] at this
  exact this
theorem QAt.low {w wr w2 : World} {es : List Eqd} {g j : Nat} (h : QAt w es g j wr) (hb : Below wr.heap.size wr w2) : QAt w es g j w2 := by
  obtain ⟨f, hf, h1, h2⟩ := h.row
  exact ⟨h.below.trans (hb.mono h.below.size), h.new, Nat.lt_of_lt_of_le h.lt hb.size, f, hf.of_block (hb.block _ h.lt), h1, fun i x hi hx => ⟨((h2 i x hi hx).1.below hb).mono (Nat.le_refl _) hb.size, ((h2 i x hi hx).2.below hb).mono (Nat.le_refl _) hb.size⟩⟩
theorem QAt.step {w wr : World} {es : List Eqd} {g j : Nat} {x : Eqd} {n1 n2 : Value} (h : QAt w es g j wr) (hx : es[j]? = some x) (hn1 : NodeIs wr 0 wr.heap.size n1 x.1.1 x.1.2.1 x.1.2.2) (hn2 : NodeIs wr 0 wr.heap.size n2 x.2.1 x.2.2.1 x.2.2.2) :
    QAt w es g (j + 1) ((wr.setCell ⟨g, j * 2, none⟩ n1).setCell ⟨g, j * 2 + 1, none⟩ n2) := by
  obtain ⟨f, hf, hnil, hall⟩ := h.row
  have hj := (List.getElem?_eq_some_iff.1 hx).1
  have c1 : wr.cell? ⟨g, j * 2, none⟩ = some .nilIface := by rw [hf.cell (by omega), hnil _ (Nat.le_refl _) (by omega)]
  have c2 : wr.cell? ⟨g, j * 2 + 1, none⟩ = some .nilIface := by rw [hf.cell (by omega), hnil _ (by omega) (by omega)]
  have ne : (⟨g, j * 2, none⟩ : Addr) ≠ ⟨g, j * 2 + 1, none⟩ := by intro e; have := congrArg Addr.off e; simp at this
  have hkeep : ∀ q z, wr.cell? q = some z → z ≠ .nilIface → ((wr.setCell ⟨g, j * 2, none⟩ n1).setCell ⟨g, j * 2 + 1, none⟩ n2).cell? q = some z := fun q z hq hz => by
    by_cases e : q = ⟨g, j * 2, none⟩
    · subst e; rw [c1] at hq; exact absurd (Option.some.inj hq).symm hz
    · by_cases e2 : q = ⟨g, j * 2 + 1, none⟩
      · subst e2; rw [c2] at hq; exact absurd (Option.some.inj hq).symm hz
      · rw [World.cell?_setCell_other _ _ _ _ (fun h' => e2 h'.symm), World.cell?_setCell_other _ _ _ _ (fun h' => e h'.symm)]; exact hq
  refine ⟨(h.below.setCell h.new _).setCell h.new _, h.new, by simpa using h.lt, _, (hf.set _ _).set _ _, fun i h1 h2 => ?_, fun i y hi hy => ?_⟩
  · rw [if_neg (by omega), if_neg (by omega)]; exact hnil i (by omega) h2
  · by_cases e : i = j
    · subst e
      rw [hx] at hy
      obtain rfl := Option.some.inj hy
      rw [if_neg (by omega), if_pos rfl, if_pos rfl]
      exact ⟨(hn1.keepN hkeep).mono (Nat.le_refl _) (by simp), (hn2.keepN hkeep).mono (Nat.le_refl _) (by simp)⟩
    · rw [if_neg (by omega), if_neg (by omega), if_neg (by omega), if_neg (by omega)]
      obtain ⟨q1, q2⟩ := hall i y (by omega) hy
      exact ⟨(q1.keepN hkeep).mono (Nat.le_refl _) (by simp), (q2.keepN hkeep).mono (Nat.le_refl _) (by simp)⟩
theorem QAt.done {w wr : World} {es : List Eqd} {g : Nat} (h : QAt w es g es.length wr) : QSl wr (some ⟨g, 0, none⟩) es := by
  obtain ⟨f, hf, _, hall⟩ := h.row
  refine .inr ⟨g, rfl, fun i x hx => ?_⟩
  have hi := (List.getElem?_eq_some_iff.1 hx).1
  exact ⟨_, _, hf.cell (by omega), hf.cell (by omega), (hall i x hi hx).1, (hall i x hi hx).2⟩
theorem Try.infoEqn : ∃ i, Try.prog.info? 138 = some i ∧ i.zero = some (.agg #[.nilIface, .nilIface]) ∧ i.size = 2 ∧ i.bytes = 32 := by
  have h : (Try.prog.info? 138).map (fun i => (i.zero, i.size, i.bytes)) = some (some (.agg #[.nilIface, .nilIface]), 2, 32) := by kernel_rfl
  obtain ⟨i, hi, hz⟩ := Option.map_eq_some_iff.1 h
  simp only [Prod.mk.injEq] at hz
  exact ⟨i, hi, hz.1, hz.2.1, hz.2.2⟩
theorem make_eqns (n : Nat) (hn : n ≤ 1048576) (w : World) :
    (Instr.makeSlice 103 (.int .i64 (n : Int)) (.int .i64 (n : Int))).run Try.prog w = .ok (.slice (some ⟨w.heap.size, 0, none⟩) n n) (w.alloc (.cells (madeCells #[.nilIface, .nilIface] (n * 2)) 138)) := by
  obtain ⟨i, hi, hz, hs, hb⟩ := Try.infoEqn
  have := run_make (P := Try.prog) w 103 138 i _ Try.underlying103 hi hz .i64 .i64 (n : Int) (n : Int) (by omega) (by omega) (by rw [hb]; omega) (by omega)
  rw [hs] at this
  simpa [Value.cells] using this

def EqnPost (es : List Eqd) (w : World) (e : Ending) (w' : World) : Prop :=
  Below w.heap.size w w' ∧ ((okEs es = true ∧ ∃ A C, e = .returned (.tuple #[.slice A es.length C, .bool true]) ∧ QSl w' A es) ∨ (okEs es = false ∧ e = .returned (.tuple #[.slice none 0 0, .bool false])))

set_option maxRecDepth 100000 in
set_option maxHeartbeats 2000000 in
theorem equationsOf_any (es : List Eqd) (A : Option Addr) (C : Nat) (w : World) (hb : ESl w 0 w.heap.size A es) (hl : es.length ≤ 9223372036854775807) :
    Calls Try.prog 71 #[.slice A es.length C] w (EqnPost es w) := by
  have HB := Lib.hid hb
  clear hb
  by_cases hbig : 6 < es.length
  · have HF : Hid (okEs es = false) := by
      cases h : okEs es with
      | false => exact rfl
      | true => have := ((okEs_iff es).1 h).1; omega
    go_enter Try.func71, Try.ntmps71
    go_wp2_with fail
    refine bodyPost_ret (v := .tuple #[.slice none 0 0, .bool false]) ?_ rfl ⟨Below.refl _ _, .inr ⟨HF.out, rfl⟩⟩
    simp [results, Try.results71, go_sem]
  have hmk := make_eqns es.length (by omega)
  have HST := Lib.hid (QAt.start w es)
  go_enter Try.func71, Try.ntmps71
  go_wp2_with fail
  clear hmk
  go_loopw [19] (fun i wr => ∃ j : Nat, i = .int .i64 j ∧ j ≤ es.length ∧ Hid ((es.take j).all okE = true) ∧ Hid (QAt w es w.heap.size j wr)) (fun i _ => es.length - (intOf i).toNat)
  case atStart => exact ⟨0, rfl, Nat.zero_le _, rfl, HST⟩
  case round =>
    clear HST
    obtain ⟨j, rfl, hj, HS, HQ⟩ := hrel
    have hws := HQ.out.below.size
    by_cases hlt : j < es.length
    · obtain ⟨x, hx⟩ : ∃ x, es[j]? = some x := ⟨es[j], List.getElem?_eq_getElem hlt⟩
      obtain ⟨⟨s, v, k⟩, s', v', k'⟩ := x
      have hbr := HB.out.below HQ.out.below
      obtain ⟨b, o, rfl, _, hbB, a1, d1, a2, d2, c0, c1, c2, c3, c4, c5, hsl, hsl2⟩ := hbr.at hx
      dsimp only at c0 c1 c2 c3 c4 c5 hsl hsl2
      have g1 : (0 : Int) ≤ (j : Int) := by omega
      have g2 : (j : Int) < (es.length : Int) := by omega
      have HX := Lib.hid hx
      have hbx : Below wr.heap.size wr (wr.alloc (.cells #[.int .i64 s, .int .i64 v, .slice a1 (flen k) d1, .int .i64 s', .int .i64 v', .slice a2 (flen k') d2] 82)) := box_low _ _
      have HSL := Lib.hid (Sl.next (hsl.mono (Nat.le_refl _) hws) hbx)
      have HSL2 := Lib.hid (Sl.next (hsl2.mono (Nat.le_refl _) hws) hbx)
      have HQ1 := Lib.hid (HQ.out.low hbx)
      have cx : ∀ i, (wr.alloc (.cells #[.int .i64 s, .int .i64 v, .slice a1 (flen k) d1, .int .i64 s', .int .i64 v', .slice a2 (flen k') d2] 82)).cell? ⟨wr.heap.size, i, none⟩ = #[Value.int .i64 s, .int .i64 v, .slice a1 (flen k) d1, .int .i64 s', .int .i64 v', .slice a2 (flen k') d2][i]? := fun i => by rw [World.cell?_alloc_at _ _ _ _ (by simp)]
      have HX3 : Hid ((wr.alloc (.cells #[.int .i64 s, .int .i64 v, .slice a1 (flen k) d1, .int .i64 s', .int .i64 v', .slice a2 (flen k') d2] 82)).cell? ⟨wr.heap.size, 3, none⟩ = some (.int .i64 s')) := cx 3
      have HX4 : Hid ((wr.alloc (.cells #[.int .i64 s, .int .i64 v, .slice a1 (flen k) d1, .int .i64 s', .int .i64 v', .slice a2 (flen k') d2] 82)).cell? ⟨wr.heap.size, 4, none⟩ = some (.int .i64 v')) := cx 4
      have HX5 : Hid ((wr.alloc (.cells #[.int .i64 s, .int .i64 v, .slice a1 (flen k) d1, .int .i64 s', .int .i64 v', .slice a2 (flen k') d2] 82)).cell? ⟨wr.heap.size, 5, none⟩ = some (.slice a2 (flen k') d2)) := cx 5
      clear hx hsl hsl2 hbx cx
      go_wp2_with fail
      with_reducible refine (nodeOf_any s v a1 d1 k 16 _ HSL.out (by omega) (by omega)).mono ?_
      rintro e w2 ⟨n1, rfl, hb2, hyes⟩
      have e3 := cell_low hb2 HX3.out
      have e4 := cell_low hb2 HX4.out
      have e5 := cell_low hb2 HX5.out
      have HQ2 := Lib.hid (HQ1.out.low hb2)
      have HSL3 := Lib.hid (HSL2.out.next hb2)
      have HY := Lib.hid hyes
      clear hb2 hyes c0 c1 c2 c3 c4 c5 HSL HSL2 HX3 HX4 HX5 HQ1 HQ
      go_wp2_with fail
      with_reducible refine (nodeOf_any s' v' a2 d2 k' 16 _ HSL3.out (by omega) (by omega)).mono ?_
      rintro e w3 ⟨n2, rfl, hb3, hyes3⟩
      have HQ3 := Lib.hid (HQ2.out.low hb3)
      have HY2 := Lib.hid hyes3
      have HB3 := Lib.hid hb3
      clear hb3 hyes3 e3 e4 e5 HSL3 HQ2
      cases hok : okW s v k 16 with
      | false =>
        have HF : Hid (okEs es = false) := all_no HX.out (by simp only [okE, okT3, hok, Bool.false_and])
        clear hok
        go_wp2_with fail
        refine bodyPost_ret (v := .tuple #[.slice none 0 0, .bool false]) ?_ rfl ⟨HQ3.out.below, .inr ⟨HF.out, rfl⟩⟩
        simp [results, Try.results71, go_sem]
      | true =>
        have HOK := Lib.hid hok
        clear hok
        cases hok : okW s' v' k' 16 with
        | false =>
          have HF : Hid (okEs es = false) := all_no HX.out (by simp only [okE, okT3, hok, Bool.and_false])
          clear hok
          go_wp2_with fail
          refine bodyPost_ret (v := .tuple #[.slice none 0 0, .bool false]) ?_ rfl ⟨HQ3.out.below, .inr ⟨HF.out, rfl⟩⟩
          simp [results, Try.results71, go_sem]
        | true =>
          have HA : Hid ((es.take (j + 1)).all okE = true) := all_take HS.out HX.out (by simp only [okE, okT3, hok, HOK.out, Bool.and_self])
          have hn1 := ((HY.out HOK.out).mono (Nat.zero_le _) (Nat.le_refl _)).below HB3.out |>.mono (Nat.le_refl _) HB3.out.size
          have hn2 := (HY2.out hok).mono (Nat.zero_le _) (Nat.le_refl _)
          obtain ⟨f, hf, hnil, _⟩ := HQ3.out.row
          have z1 : w3.cell? ⟨w.heap.size, j * 2, none⟩ = some .nilIface := by rw [hf.cell (by omega), hnil _ (Nat.le_refl _) (by omega)]
          have z2 : w3.cell? ⟨w.heap.size, j * 2 + 1, none⟩ = some .nilIface := by rw [hf.cell (by omega), hnil _ (by omega) (by omega)]
          have f1 := hf.frozen (j * 2)
          have f2 := hf.frozen (j * 2 + 1)
          obtain ⟨t1, u1, rfl⟩ : ∃ t u, n1 = .iface t u := by rcases hn1 with ⟨_, _, rfl⟩ | ⟨_, _, _, rfl, _⟩ <;> exact ⟨_, _, rfl⟩
          obtain ⟨t2, u2, rfl⟩ : ∃ t u, n2 = .iface t u := by rcases hn2 with ⟨_, _, rfl⟩ | ⟨_, _, _, rfl, _⟩ <;> exact ⟨_, _, rfl⟩
          have HQ4 := Lib.hid (HQ3.out.step HX.out hn1 hn2)
          clear hok hn1 hn2 hf hnil HY HY2 HB3
          go_wp2_with fail
          go_roundw
          case rel => exact ⟨j + 1, by go_num, by omega, HA, HQ4⟩
          case measure => simp [intOf]; omega
    · obtain rfl : j = es.length := by omega
      have HE : Hid (okEs es = true) := by
        refine (okEs_iff es).2 ⟨by omega, fun x hx => ?_⟩
        have := HS.out
        rw [List.take_of_length_le (by omega)] at this
        exact List.all_eq_true.1 this x hx
      go_wp2_with fail
      refine bodyPost_ret (v := .tuple #[.slice (some ⟨w.heap.size, 0, none⟩) es.length es.length, .bool true]) ?_ rfl ⟨HQ.out.below, .inl ⟨HE.out, _, _, rfl, HQ.out.done⟩⟩
      simp [results, Try.results71, go_sem]

end Go.Proofs.Ytoafleckcjanaaa

/-! FW0: The program's sides of an equation. -/
namespace Go.Proofs.Ytoafleckcjanaaa
open Go.RowKit Go.Deep

set_option maxRecDepth 100000 in
set_option maxHeartbeats 1000000 in
theorem sides_any (t1 t2 : TypeId) (u1 u2 : Value) (back : Bool) (w : World) :
    Calls Try.prog 97 #[.agg #[.iface t1 u1, .iface t2 u2], .bool back] w fun e w' =>
      e = .returned (.tuple (if back = true then #[.iface t2 u2, .iface t1 u1] else #[.iface t1 u1, .iface t2 u2])) ∧ Below w.heap.size w w' := by
  have hb0 : Below w.heap.size w (w.alloc (.cells #[.iface t1 u1, .iface t2 u2] 138)) := box_low _ _
  have HB0 := Lib.hid hb0
  have hu0 : ∀ u : After (w.alloc (.cells #[.iface t1 u1, .iface t2 u2] 138)).heap.size (w.alloc (.cells #[.iface t1 u1, .iface t2 u2] 138)), u.world.cell? ⟨w.heap.size, 0, none⟩ = some (.iface t1 u1) := fun u => by
    rw [u.below.cell (by simp), World.cell?_alloc_at _ _ _ _ (by simp)]; rfl
  have hu1 : ∀ u : After (w.alloc (.cells #[.iface t1 u1, .iface t2 u2] 138)).heap.size (w.alloc (.cells #[.iface t1 u1, .iface t2 u2] 138)), u.world.cell? ⟨w.heap.size, 1, none⟩ = some (.iface t2 u2) := fun u => by
    rw [u.below.cell (by simp), World.cell?_alloc_at _ _ _ _ (by simp)]; rfl
  clear hb0
  go_enter Try.func97, Try.ntmps97
  cases back with
  | true =>
    go_wp2_with fail
    refine wp_region_mix (fun w' => ∃ u : After (w.alloc (.cells #[.iface t1 u1, .iface t2 u2] 138)).heap.size (w.alloc (.cells #[.iface t1 u1, .iface t2 u2] 138)), w' = u.world) [] [(0, 0), (1, 0), (2, 0), (3, 0), (4, 0), (5, 0)] (by kernel_rfl) (by kernel_rfl) ⟨⟨_, (Below.refl _ _).drew⟩, rfl⟩ ?_
    have HB1 := Lib.hid (HB0.out.trans ((Below.refl (w.alloc (.cells #[.iface t1 u1, .iface t2 u2] 138)).heap.size (w.alloc (.cells #[.iface t1 u1, .iface t2 u2] 138))).drew.mono (by simp)))
    iterate 6
      refine mix_see rfl (fun K hK => ?_)
      go_simp
      refine hK _ ?_
      clear hK K
    refine mix_end ?_
    clear hu0 hu1
    generalize (w.alloc (.cells #[.iface t1 u1, .iface t2 u2] 138)).drew = wd at *
    go_wp2_with fail
    refine bodyPost_ret (v := .tuple #[.iface t2 u2, .iface t1 u1]) ?_ rfl ⟨rfl, HB1.out⟩
    simp [results, Try.results97, go_sem]
  | false =>
    go_wp2_with fail
    refine wp_region_mix (fun w' => ∃ u : After (w.alloc (.cells #[.iface t1 u1, .iface t2 u2] 138)).heap.size (w.alloc (.cells #[.iface t1 u1, .iface t2 u2] 138)), w' = u.world) [] [(0, 0), (1, 0), (2, 0), (3, 0), (4, 0), (5, 0)] (by kernel_rfl) (by kernel_rfl) ⟨⟨_, (Below.refl _ _).drew⟩, rfl⟩ ?_
    have HB1 := Lib.hid (HB0.out.trans ((Below.refl (w.alloc (.cells #[.iface t1 u1, .iface t2 u2] 138)).heap.size (w.alloc (.cells #[.iface t1 u1, .iface t2 u2] 138))).drew.mono (by simp)))
    iterate 6
      refine mix_see rfl (fun K hK => ?_)
      go_simp
      refine hK _ ?_
      clear hK K
    refine mix_end ?_
    clear hu0 hu1
    generalize (w.alloc (.cells #[.iface t1 u1, .iface t2 u2] 138)).drew = wd at *
    go_wp2_with fail
    refine bodyPost_ret (v := .tuple #[.iface t1 u1, .iface t2 u2]) ?_ rfl ⟨rfl, HB1.out⟩
    simp [results, Try.results97, go_sem]
end Go.Proofs.Ytoafleckcjanaaa
