/- Several texts in one: V0, IS, V1, FK, S4, S5, A1, UM, WL0. -/
import Derived.Test.YtdkcbbhkoibplaaKLk6
import Derived.Lib.SlicesCompact
import Derived.Test.YtdkcbbhkoibplaaKLk5
import Derived.Test.YtdkcbbhkoibplaaKLk1

/-! V0: The variables of a term: as they come; sorted, each once. Plain lemmas. -/
namespace Go.Proofs.Ytdkcbbhkoibplaa
open Go.RowKit Go.Deep

/-- The variables of terms, as they come. -/
def fvl : Fo → List Int
  | .nil => []
  | .node _ _ p k r => (if p.1 = 0 then [p.2] else fvl k) ++ fvl r
/-- The variables of a term, as they come. -/
def fvs (s v : Int) (k : Fo) : List Int := if s = 0 then [v] else fvl k

theorem fvl_sz : ∀ k : Fo, (fvl k).length ≤ fsz k
  | .nil => Nat.le_refl _
  | .node _ _ p k r => by
    have h1 := fvl_sz k
    have h2 := fvl_sz r
    simp only [fvl, fsz, List.length_append]
    split
    · simp; omega
    · omega
/-- What stands ahead of the j-th has no more variables than room. -/
theorem fvl_ge : ∀ (j : Nat) (k : Fo), (fvl k).length + fsz (fdrop j k) ≤ fsz k + (fvl (fdrop j k)).length
  | 0, k => by simp [fdrop]; omega
  | _ + 1, .nil => by simp only [fdrop]; omega
  | n + 1, .node _ _ p kk r => by
    have h := fvl_ge n r
    have h1 := fvl_sz kk
    simp only [fdrop, fvl, fsz, List.length_append]
    split
    · simp; omega
    · omega
theorem fvs_sz (s v : Int) (k : Fo) : (fvs s v k).length ≤ 1 + fsz k := by
  have := fvl_sz k
  unfold fvs
  split
  · simp
  · omega
theorem fvl_in : ∀ (k : Fo), fok k = true → ∀ x ∈ fvl k, 0 ≤ x ∧ x ≤ 11
  | .nil, _, x, hx => by simp [fvl] at hx
  | .node _ _ p k r, h, x, hx => by
    simp only [fok, Bool.and_eq_true] at h
    simp only [fvl, List.mem_append] at hx
    rcases hx with hx | hx
    · split at hx
      · rename_i hp
        simp only [List.mem_singleton] at hx
        subst hx
        exact ((okN_iff _ _ _).1 h.1.1).2.1 hp
      · exact fvl_in k h.1.2 x hx
    · exact fvl_in r h.2 x hx
theorem fvs_in {s v : Int} {k : Fo} (h : okW s v k 16 = true) : ∀ x ∈ fvs s v k, 0 ≤ x ∧ x ≤ 11 := by
  have h' := (okW_iff _ _ _ _).1 h
  intro x hx
  unfold fvs at hx
  split at hx
  · rename_i hs
    simp only [List.mem_singleton] at hx
    subst hx
    exact ((okN_iff _ _ _).1 h'.1).2.1 hs
  · exact fvl_in k h'.2.1 x hx

theorem strict_ext : ∀ (l1 l2 : List Int), l1.Pairwise (· < ·) → l2.Pairwise (· < ·) → (∀ x, x ∈ l1 ↔ x ∈ l2) → l1 = l2
  | [], [], _, _, _ => rfl
  | [], b :: _, _, _, h => by have := (h b).2 (by simp); simp at this
  | a :: _, [], _, _, h => by have := (h a).1 (by simp); simp at this
  | a :: l1, b :: l2, h1, h2, h => by
    rw [List.pairwise_cons] at h1 h2
    have e : a = b := by
      rcases List.mem_cons.1 ((h a).1 (by simp)) with e | e
      · exact e
      · rcases List.mem_cons.1 ((h b).2 (by simp)) with e' | e'
        · exact e'.symm
        · have := h1.1 b e'; have := h2.1 a e; omega
    subst e
    rw [strict_ext l1 l2 h1.2 h2.2 fun x => ?_]
    constructor
    · intro hx
      rcases List.mem_cons.1 ((h x).1 (by simp [hx])) with e | e
      · have := h1.1 x hx; omega
      · exact e
    · intro hx
      rcases List.mem_cons.1 ((h x).2 (by simp [hx])) with e | e
      · have := h2.1 x hx; omega
      · exact e

/-- Of a sorted row each once, in order, and none is lost. -/
theorem compact_sorted (ys : List Int) (hs : ys.Pairwise (· ≤ ·)) : ∀ m, m ≤ ys.length →
    (Lib.compactUpTo ys.toArray m).Pairwise (· < ·) ∧ (∀ x, x ∈ Lib.compactUpTo ys.toArray m ↔ ∃ j, j < m ∧ ys[j]? = some x) := by
  have hget : ∀ j, j < ys.length → ys[j]? = some (ys.toArray[j]!) := fun j hj => by simp [hj]
  have hle : ∀ i j, i ≤ j → j < ys.length → ys.toArray[i]! ≤ ys.toArray[j]! := fun i j hij hj => by
    rcases Nat.lt_or_ge i j with h | h
    · have := List.pairwise_iff_getElem.1 hs i j (by omega) hj h
      simpa [hj, show i < ys.length by omega] using this
    · have : i = j := by omega
      subst this
      exact Int.le_refl _
  intro m
  induction m with
  | zero => intro _; exact ⟨by simp [Lib.compactUpTo], fun x => by simp [Lib.compactUpTo]⟩
  | succ m ih =>
    intro hm
    obtain ⟨h1, h2⟩ := ih (by omega)
    rw [Lib.compactUpTo_succ]
    by_cases hk : Lib.keeps ys.toArray m = true
    · rw [if_pos hk]
      refine ⟨List.pairwise_append.2 ⟨h1, List.pairwise_singleton _ _, fun a ha b hb => ?_⟩, fun x => ?_⟩
      · simp only [List.mem_singleton] at hb
        subst hb
        obtain ⟨j, hj, hja⟩ := (h2 a).1 ha
        rw [hget j (by omega)] at hja
        have hja' := Option.some.inj hja
        have hne : ys.toArray[m]! ≠ ys.toArray[m - 1]! := by
          simp only [Lib.keeps, decide_eq_true_eq] at hk
          rcases hk with hk | hk
          · omega
          · exact hk
        have a1 := hle j (m - 1) (by omega) (by omega)
        have a2 := hle (m - 1) m (by omega) (by omega)
        rw [← hja']
        omega
      · simp only [List.mem_append, List.mem_singleton]
        constructor
        · rintro (hx | rfl)
          · obtain ⟨j, hj, e⟩ := (h2 x).1 hx
            exact ⟨j, by omega, e⟩
          · exact ⟨m, by omega, hget m (by omega)⟩
        · rintro ⟨j, hj, e⟩
          by_cases hjm : j < m
          · exact .inl ((h2 x).2 ⟨j, hjm, e⟩)
          · have : j = m := by omega
            subst this
            rw [hget j (by omega)] at e
            exact .inr (Option.some.inj e).symm
    · rw [if_neg hk, List.append_nil]
      refine ⟨h1, fun x => ⟨fun hx => ?_, fun hx => ?_⟩⟩
      · obtain ⟨j, hj, e⟩ := (h2 x).1 hx
        exact ⟨j, by omega, e⟩
      · obtain ⟨j, hj, e⟩ := hx
        by_cases hjm : j < m
        · exact (h2 x).2 ⟨j, hjm, e⟩
        · have : j = m := by omega
          subst this
          have hk' : ¬(j = 0 ∨ ys.toArray[j]! ≠ ys.toArray[j - 1]!) := by simpa [Lib.keeps] using hk
          have h0 : j ≠ 0 := fun h => hk' (.inl h)
          have heq : ys.toArray[j]! = ys.toArray[j - 1]! := Classical.byContradiction fun h => hk' (.inr h)
          rw [hget j (by omega), heq, ← hget (j - 1) (by omega)] at e
          exact (h2 x).2 ⟨j - 1, by omega, e⟩

/-- The numbers from 0 to 11 that are in a list. -/
def among (xs : List Int) (n : Nat) : List Int := ((List.range n).map (fun (i : Nat) => (i : Int))).filter (fun x => decide (x ∈ xs))
theorem among_mem (xs : List Int) (n : Nat) (x : Int) : x ∈ among xs n ↔ x ∈ xs ∧ 0 ≤ x ∧ x < n := by
  simp only [among, List.mem_filter, List.mem_map, List.mem_range, decide_eq_true_eq]
  constructor
  · rintro ⟨⟨i, hi, rfl⟩, h⟩
    exact ⟨h, by omega, by omega⟩
  · rintro ⟨h, h0, h1⟩
    exact ⟨⟨x.toNat, by omega, by omega⟩, h⟩
theorem among_strict (xs : List Int) (n : Nat) : (among xs n).Pairwise (· < ·) := by
  refine List.Pairwise.filter _ ?_
  rw [List.pairwise_map]
  refine List.Pairwise.imp ?_ List.pairwise_lt_range
  intro a b h
  omega
theorem among_succ (xs : List Int) (n : Nat) : among xs (n + 1) = among xs n ++ (if (n : Int) ∈ xs then [(n : Int)] else []) := by
  simp only [among, List.range_succ, List.map_append, List.filter_append, List.map_cons, List.map_nil]
  congr 1
  by_cases h : (n : Int) ∈ xs <;> simp [h]
theorem compact_among (xs : List Int) (h : ∀ x ∈ xs, 0 ≤ x ∧ x ≤ 11) : Lib.compact (xs.mergeSort fun x y => decide (x ≤ y)) = among xs 12 := by
  have hs : (xs.mergeSort fun x y => decide (x ≤ y)).Pairwise (· ≤ ·) := by
    have := List.pairwise_mergeSort (le := fun (x y : Int) => decide (x ≤ y)) (fun a b c h1 h2 => by simp only [decide_eq_true_eq] at *; omega) (fun a b => by simp only [Bool.or_eq_true, decide_eq_true_eq]; omega) xs
    exact this.imp (fun h => by simpa using h)
  obtain ⟨h1, h2⟩ := compact_sorted _ hs _ (Nat.le_refl _)
  refine strict_ext _ _ h1 (among_strict xs 12) fun x => ?_
  rw [among_mem]
  have h3 : x ∈ Lib.compact (xs.mergeSort fun x y => decide (x ≤ y)) ↔ x ∈ xs := by
    rw [Lib.compact, h2 x, ← List.mem_mergeSort (le := fun (x y : Int) => decide (x ≤ y)) (l := xs)]
    constructor
    · rintro ⟨j, _, e⟩
      exact List.mem_of_getElem? e
    · intro hx
      obtain ⟨j, hj, e⟩ := List.getElem_of_mem hx
      exact ⟨j, hj, by rw [List.getElem?_eq_getElem hj, e]⟩
  rw [h3]
  constructor
  · intro hx
    have := h x hx
    exact ⟨hx, by omega, by omega⟩
  · exact fun hx => hx.1
end Go.Proofs.Ytdkcbbhkoibplaa

/-! IS: Rows of numbers: what a place of one holds, one of the call's own. -/
namespace Go.Proofs.Ytdkcbbhkoibplaa
open Go.RowKit Go.Deep

theorem isl_at {w : World} {lo B : Nat} {a : Option Addr} {xs : List Int} {i : Nat} (h : ISl w lo B a xs) (hi : i < xs.length) :
    ∃ b o, a = some ⟨b, o, none⟩ ∧ lo ≤ b ∧ b < B ∧ w.cell? ⟨b, o + i, none⟩ = some (.int .i64 xs[i]) := by
  rcases h with rfl | ⟨b, o, e, h1, h2, h3⟩
  · simp at hi
  · exact ⟨b, o, e, h1, h2, h3 i _ (List.getElem?_eq_getElem hi)⟩

def IOwn (w : World) (base : Nat) (xs : List Int) (A : Option Addr) (C : Nat) : Prop := w.ownsRow base 3 1 (.slice A xs.length C) xs.length (xs.map (Value.int .i64))

theorem IOwn.base {w : World} {base base' : Nat} {xs : List Int} {A : Option Addr} {C : Nat} (h : IOwn w base xs A C) (hb : base' ≤ base) : IOwn w base' xs A C := own_base hb h
theorem IOwn.sl {w : World} {base : Nat} {xs : List Int} {A : Option Addr} {C : Nat} (h : IOwn w base xs A C) : ISl w base w.heap.size A xs := isl_of_own h
theorem IOwn.low {w w2 : World} {base : Nat} {xs : List Int} {A : Option Addr} {C : Nat} (h : IOwn w base xs A C) (hb : Below w.heap.size w w2) : IOwn w2 base xs A C := own_low hb h
end Go.Proofs.Ytdkcbbhkoibplaa

/-! V1: - addVars: the variables of a node, appended as they come. -/
namespace Go.Proofs.Ytdkcbbhkoibplaa
open Go.RowKit Go.Deep

theorem assert_varV (v : Int) (w : World) : (Instr.typeAssert (.iface 149 (.int .i64 v)) 100 149 true).run Try.prog w = .ok (.tuple #[.int .i64 v, .bool true]) w := by kernel_rfl
theorem assert_symV (s : Int) (a : Option Addr) (n c : Nat) (w : World) : (Instr.typeAssert (.iface 165 (.agg #[.int .i64 s, .slice a n c])) 100 149 true).run Try.prog w = .ok (.tuple #[.int .i64 0, .bool false]) w := by kernel_rfl

/-- A row of numbers of the call's own. -/
def AvPost (base : Nat) (xs : List Int) (s v : Int) (k : Fo) (w : World) (e : Ending) (w' : World) : Prop :=
  ∃ ys A C, ys = xs ++ fvs s v k ∧ e = .returned (.slice A ys.length C) ∧ IOwn w' base ys A C ∧ Below base w w'

end Go.Proofs.Ytdkcbbhkoibplaa

/-! FK: The kids of a well-formed term are. -/
namespace Go.Proofs.Ytdkcbbhkoibplaa
open Go.RowKit Go.Deep

theorem fok_kid {i : Nat} {k : Fo} {x y : Nat} {s v : Int} {kk r : Fo} (h : fok k = true) (hd : fdrop i k = .node x y (s, v) kk r) : okN s v (flen kk) = true ∧ fok kk = true := by
  have hf : ∀ (i : Nat) (k : Fo), fok k = true → fok (fdrop i k) = true := by
    intro i
    induction i with
    | zero => intro k h; exact h
    | succ n ih =>
      intro k h
      cases k with
      | nil => rfl
      | node _ _ p kk r => simp only [fok, Bool.and_eq_true] at h; exact ih r h.2
  have h4 := hf i k h
  rw [hd] at h4
  simp only [fok, Bool.and_eq_true] at h4
  exact h4.1
end Go.Proofs.Ytdkcbbhkoibplaa

/-! S4: fold over nodes with valueOf and symbolOf; apply. -/
namespace Go.Proofs.Ytdkcbbhkoibplaa
open Go.RowKit Go.Deep Go.Maps

/-- What holds at the head of fold's loop: j kids are done. -/
structure FoAt (w : World) (σ : Int → Option (Int × Int × Fo)) (k : Fo) (g j : Nat) (wr : World) : Prop where
  below : Below w.heap.size w wr
  new : w.heap.size ≤ g
  lt : g < wr.heap.size
  row : ∃ vs, wr.ownsRow w.heap.size 100 1 (.slice (some ⟨g, 0, none⟩) (flen k) (flen k)) (flen k) vs ∧ (∀ i, j ≤ i → i < flen k → vs[i]? = some .nilIface) ∧
    ∀ i, i < j → ∃ x y s v kk nv, fdrop i k = .node x y (s, v) kk (fdrop (i + 1) k) ∧ vs[i]? = some nv ∧ NodeIs wr 0 wr.heap.size nv (tsub σ s v kk).1 (tsub σ s v kk).2.1 (tsub σ s v kk).2.2
theorem FoAt.start {w u : World} {σ : Int → Option (Int × Int × Fo)} {k : Fo} (hb : Below w.heap.size w u) (hk : flen k ≤ 1000) : FoAt w σ k u.heap.size 0 (u.alloc (.cells (madeCells #[.nilIface] (flen k)) 100)) := by
  have hs := hb.size
  refine ⟨hb.alloc hs _, hs, by simp, ⟨_, World.ownsRow_lit (base := w.heap.size) (e := 100) (size := 1) u (madeCells #[.nilIface] (flen k)) (flen k) hs (by unfold maxLen; omega) (by simp [madeCells]), fun i _ hi => ?_, fun i hi => by omega⟩⟩
  rw [toList_madeCells_one, List.getElem?_replicate, if_pos hi]
theorem FoAt.step {w wr w2 : World} {σ : Int → Option (Int × Int × Fo)} {k : Fo} {g j x y : Nat} {s v : Int} {kk : Fo} {nv : Value} (h : FoAt w σ k g j wr) (hj : j < flen k) (hd : fdrop j k = .node x y (s, v) kk (fdrop (j + 1) k)) (hb : Below wr.heap.size wr w2)
    (hn : NodeIs w2 0 w2.heap.size nv (tsub σ s v kk).1 (tsub σ s v kk).2.1 (tsub σ s v kk).2.2) : FoAt w σ k g (j + 1) (w2.setCell ⟨g, j, none⟩ nv) := by
  obtain ⟨vs, hown, hnil, hall⟩ := h.row
  have hs := hb.size
  have hl := h.lt
  have hnew := h.new
  have hws := h.below.size
  have hown2 := own_low hb hown
  have hcj : w2.cell? ⟨g, j, none⟩ = some .nilIface := by rw [hown2.cellAt j (by omega)]; exact hnil j (Nat.le_refl _) hj
  have hkeep : ∀ q z, w2.cell? q = some z → z ≠ .nilIface → (w2.setCell ⟨g, j, none⟩ nv).cell? q = some z := fun q z hq hz => by
    by_cases e : q = ⟨g, j, none⟩
    · subst e; rw [hcj] at hq; exact absurd (Option.some.inj hq).symm hz
    · rw [World.cell?_setCell_other _ _ _ _ (fun h' => e h'.symm)]; exact hq
  have hvl : vs.length = flen k := by have := hown.1; omega
  refine ⟨(h.below.trans (hb.mono hws)).setCell hnew _, hnew, by simp; omega, ⟨vs.set j nv, (hown2.stored j nv).1, fun i h1 h2 => ?_, fun i hi => ?_⟩⟩
  · rw [List.getElem?_set_ne (by omega)]; exact hnil i (by omega) h2
  · by_cases e : i = j
    · subst e
      exact ⟨x, y, s, v, kk, nv, hd, List.getElem?_set_self (by omega), (hn.keepN hkeep).mono (Nat.le_refl _) (by simp)⟩
    · obtain ⟨x', y', s', v', kk', nv', e1, e2, e3⟩ := hall i (by omega)
      exact ⟨x', y', s', v', kk', nv', e1, by rw [List.getElem?_set_ne (fun h' => e h'.symm)]; exact e2, (((e3.below hb).mono (Nat.le_refl _) hs).keepN hkeep).mono (Nat.le_refl _) (by simp)⟩
theorem FoAt.done {w wr : World} {σ : Int → Option (Int × Int × Fo)} {k : Fo} {g : Nat} (h : FoAt w σ k g (flen k) wr) : NSl wr 0 wr.heap.size (some ⟨g, 0, none⟩) (fsub σ k) := by
  obtain ⟨vs, hown, _, hall⟩ := h.row
  refine .inr ⟨g, 0, rfl, nrow_of_allS _ _ _ (Nat.zero_le _) h.lt fun i hi => ?_⟩
  rw [fsub_len] at hi
  obtain ⟨x, y, s, v, kk, nv, hd, hv, hn⟩ := hall i hi
  exact ⟨x, y, _, _, _, nv, fsub_at σ i k hd, by rw [Nat.zero_add, hown.cellAt i (by omega)]; exact hv, hn⟩
end Go.Proofs.Ytdkcbbhkoibplaa

/-! S5: fold; apply. -/
namespace Go.Proofs.Ytdkcbbhkoibplaa
open Go.RowKit Go.Deep Go.Maps

set_option maxRecDepth 100000 in
theorem signOfS_any (s : Int) (a : Option Addr) (n c : Nat) (w : World) :
    Calls Try.prog 111 #[.iface 165 (.agg #[.int .i64 s, .slice a n c])] w fun e w' => e = .returned (.int .i64 s) ∧ Below w.heap.size w w' := by
  have hta := assert_var
  have htb := assert_sym
  go_enter Try.func111, Try.ntmps111
  go_wp2_with fail
  go_ret
  exact ⟨rfl, (Below.refl _ _).alloc (Nat.le_refl _) _⟩

set_option maxRecDepth 100000 in
set_option maxHeartbeats 2000000 in
theorem fold_any (bs : List Bd) (b : Nat) (N : Nat) : ∀ (s v : Int) (k : Fo) (nv : Value) (w : World), NodeIs w 0 w.heap.size nv s v k → MapIs w b bs → okN s v (flen k) = true → fok k = true → fsz k ≤ N → N ≤ 1000 →
    Calls Try.prog 98 #[nv, .func (.func 99) #[.map (some b)] #[], .func (.func 100) #[] #[]] w (NvPost (tsub (sv bs) s v k).1 (tsub (sv bs) s v k).2.1 (tsub (sv bs) s v k).2.2 w) := by
  induction N using Nat.strongRecOn with
  | _ N ih =>
    intro s v k nv w hn hm hok hfk hN hN2
    have IH := Lib.hid ih
    have HM := Lib.hid hm
    have HN := Lib.hid hn
    have HFK := Lib.hid hfk
    have hfl := flen_le_sz k
    have hta := assert_varV
    have htb := assert_symV
    clear ih hm hfk
    rcases hn with ⟨rfl, rfl, rfl⟩ | ⟨hs, a, c, rfl, hns⟩
    · have hv := ((okN_iff _ _ _).1 hok).2.1 rfl
      have HWF : Hid ((Lit.int .i64 v).wf = true) := WalkArith.wf_i64 (by omega)
      clear hok
      go_enter Try.func98, Try.ntmps98
      go_wp2_with fail
      with_reducible refine (valueOf_any bs b v _ HM.out HWF.out).mono ?_
      rintro e w1 ⟨nv1, rfl, hb1, hn1⟩
      have HB1 := Lib.hid hb1
      have HN1 := Lib.hid hn1
      clear hb1 hn1
      go_wp2_with fail
      go_ret
      exact ⟨nv1, rfl, HB1.out, HN1.out⟩
    · have HT : Hid (tsub (sv bs) s v k = (s, v, fsub (sv bs) k)) := by unfold Hid tsub; rw [if_neg hs]
      have hvs := ((okN_iff _ _ _).1 hok).2.2 hs
      clear hns hok
      go_enter Try.func98, Try.ntmps98
      go_wp2_with fail
      with_reducible refine (kidsOf_any s v k _ w.heap.size _ HN.out).mono ?_
      rintro e w1 ⟨ak, ck, rfl, hb1, hnk⟩
      have HB1 := Lib.hid hb1
      have HNK := Lib.hid hnk
      have hs1 := hb1.size
      have hmk := run_make_row' (P := Try.prog) 147 100 .nilIface 16 Try.underlying147 Try.infoNode rfl .i64 .i64 (flen k) (by omega) (by omega)
      have HST := Lib.hid (FoAt.start (σ := sv bs) hb1 (k := k) (by omega))
      clear hb1 hnk
      go_wp2_with fail
      go_loopw [29] (fun i wr => ∃ j : Nat, i = .int .i64 j ∧ j ≤ flen k ∧ Hid (FoAt w (sv bs) k w1.heap.size j wr)) (fun i _ => flen k - (intOf i).toNat)
      case atStart => exact ⟨0, rfl, Nat.zero_le _, HST⟩
      case round =>
        clear HST
        obtain ⟨j, rfl, hj, HF⟩ := hrel
        have hws := HF.out.below.size
        by_cases hlt : j < flen k
        · have hnr := HNK.out.below HF.out.below
          rcases hnr with rfl | ⟨kb, ko, rfl, hrow⟩
          · simp [flen] at hlt
          obtain ⟨s', v', kk, val, ⟨x, y, hd⟩, _, hbB, hk0, hnk⟩ := nrow_at hrow hlt
          have hkN := fsz_kid hd
          have hkid := fok_kid HFK.out hd
          have HC := Lib.hid (IH.out (fsz kk) (by omega) s' v' kk val wr (hnk.mono (Nat.le_refl _) hws) (HM.out.below HF.out.below) hkid.1 hkid.2 (Nat.le_refl _) (by omega))
          have HD := Lib.hid hd
          obtain ⟨vs, hown, hnil, _⟩ := HF.out.row
          have hlw := HF.out.lt
          have HOWN := Lib.hid hown
          have hcj0 := hnil j (Nat.le_refl _) hlt
          have HNJ := Lib.hid hcj0
          clear hnk hkid hd hrow hown hnil hcj0
          have g1 : (0 : Int) ≤ (j : Int) := by omega
          have g2 : (j : Int) < (flen k : Int) := by omega
          go_wp2_with fail
          with_reducible refine HC.out.mono ?_
          rintro e w2 ⟨nv2, rfl, hb2, hn2⟩
          obtain ⟨ty2, vv2, rfl⟩ : ∃ ty vv, nv2 = .iface ty vv := by
            rcases hn2 with ⟨_, _, rfl⟩ | ⟨_, _, _, rfl, _⟩
            · exact ⟨_, _, rfl⟩
            · exact ⟨_, _, rfl⟩
          have hown2 := own_low hb2 HOWN.out
          have hz : w2.cell? ⟨w1.heap.size, j, none⟩ = some .nilIface := by rw [hown2.cellAt j (by omega)]; exact HNJ.out
          have hf : w2.frozen? ⟨w1.heap.size, j, none⟩ = false := hown2.frozenAt j
          have HF2 := Lib.hid (HF.out.step hlt HD.out hb2 hn2)
          clear hb2 hn2 hown2 hk0 HC
          go_wp2_with fail
          go_roundw
          case rel => exact ⟨j + 1, by go_num, by omega, HF2⟩
          case measure => simp [intOf]; omega
        · have hjk : j = flen k := by omega
          subst hjk
          have HNS := Lib.hid HF.out.done
          have HBW := Lib.hid HF.out.below
          have hfl2 := fsub_len (sv bs) k
          go_wp2_with fail
          with_reducible refine (signOfS_any s a (flen k) c _).mono ?_
          rintro e w3 ⟨rfl, hb3⟩
          have HB3 := Lib.hid hb3
          clear hb3
          go_wp2_with fail
          with_reducible refine (symbolOf_any s (some ⟨w1.heap.size, 0, none⟩) (flen k) (flen k) _).mono ?_
          rintro e w4 ⟨rfl, rfl⟩
          have HP : Hid (NvPost (tsub (sv bs) s v k).1 (tsub (sv bs) s v k).2.1 (tsub (sv bs) s v k).2.2 w (.returned (.iface 165 (.agg #[.int .i64 s, .slice (some ⟨w1.heap.size, 0, none⟩) (flen k) (flen k)]))) w4) := by
            rw [Hid, HT.out]
            refine ⟨_, rfl, HBW.out.trans (HB3.out.mono hws), .inr ⟨hs, some ⟨w1.heap.size, 0, none⟩, flen k, by rw [hfl2], ?_⟩⟩
            exact (HNS.out.below HB3.out).mono (Nat.le_refl _) HB3.out.size
          clear hfl2
          go_wp2_with fail
          go_ret
          exact HP.out

set_option maxRecDepth 100000 in
theorem apply_any (bs : List Bd) (b : Nat) (s v : Int) (k : Fo) (nv : Value) (w : World) (hn : NodeIs w 0 w.heap.size nv s v k) (hm : MapIs w b bs) (hok : okN s v (flen k) = true) (hfk : fok k = true) (hN : fsz k ≤ 1000) :
    Calls Try.prog 75 #[.map (some b), nv] w (NvPost (tsub (sv bs) s v k).1 (tsub (sv bs) s v k).2.1 (tsub (sv bs) s v k).2.2 w) := by
  have HC := Lib.hid (fold_any bs b 1000 s v k nv w hn hm hok hfk hN (Nat.le_refl _))
  clear hn hm hok hfk
  go_enter Try.func75, Try.ntmps75
  go_wp2_with fail
  with_reducible refine HC.out.mono ?_
  rintro e w1 ⟨nv1, rfl, hb1, hn1⟩
  have HB1 := Lib.hid hb1
  have HN1 := Lib.hid hn1
  clear hb1 hn1
  go_wp2_with fail
  go_ret
  exact ⟨nv1, rfl, HB1.out, HN1.out⟩
end Go.Proofs.Ytdkcbbhkoibplaa

/-! A1: nodeAt: the node that stands at a place. -/
namespace Go.Proofs.Ytdkcbbhkoibplaa
open Go.RowKit Go.Deep

theorem isl_get {w : World} {lo B : Nat} {a : Option Addr} {xs : List Int} {i : Nat} (h : ISl w lo B a xs) (hi : i < xs.length) :
    ∃ b o, a = some ⟨b, o, none⟩ ∧ lo ≤ b ∧ b < B ∧ w.cell? ⟨b, o + i, none⟩ = some (.int .i64 xs[i]) := by
  rcases h with rfl | ⟨b, o, e, h1, h2, h3⟩
  · simp at hi
  · exact ⟨b, o, e, h1, h2, h3 i _ (List.getElem?_eq_getElem hi)⟩

/-- What stands at a place. -/
def fat : Int → Int → Fo → List Int → Option (Int × Int × Fo)
  | s, v, k, [] => some (s, v, k)
  | _, _, k, i :: ps => if 0 ≤ i ∧ i < (flen k : Int) then (match fdrop i.toNat k with
    | .node _ _ (s', v') kk _ => fat s' v' kk ps
    | .nil => none) else none

def NaPost (s v : Int) (k : Fo) (place : List Int) (w : World) (e : Ending) (w' : World) : Prop :=
  Below w.heap.size w w' ∧ ((∃ s' v' k' nv, fat s v k place = some (s', v', k') ∧ e = .returned (.tuple #[nv, .bool true]) ∧ NodeIs w 0 w.heap.size nv s' v' k') ∨ (fat s v k place = none ∧ e = .returned (.tuple #[.nilIface, .bool false])))

set_option maxRecDepth 100000 in
set_option maxHeartbeats 1000000 in
theorem nodeAt_any (s v : Int) (k : Fo) (nv : Value) (pA : Option Addr) (pC : Nat) (place : List Int) (w : World) (hn : NodeIs w 0 w.heap.size nv s v k) (hp : ISl w 0 w.heap.size pA place) (hpl : place.length ≤ 1048576) :
    Calls Try.prog 73 #[nv, .slice pA place.length pC] w (NaPost s v k place w) := by
  have HN := Lib.hid hn
  have HP := Lib.hid hp
  clear hn hp
  obtain ⟨ty, vv, rfl⟩ : ∃ ty vv, nv = .iface ty vv := by
    rcases HN.out with ⟨_, _, rfl⟩ | ⟨_, _, _, rfl, _⟩
    · exact ⟨_, _, rfl⟩
    · exact ⟨_, _, rfl⟩
  go_enter Try.func73, Try.ntmps73
  go_wp2_with fail
  go_loopw [0, 11] (fun t i wr => ∃ (j : Nat) (s' v' : Int) (k' : Fo) (ty' : TypeId) (vv' : Value), j ≤ place.length ∧ i = .int .i64 j ∧ t = .iface ty' vv' ∧ Hid (fat s v k place = fat s' v' k' (place.drop j)) ∧ NodeIs w 0 w.heap.size t s' v' k' ∧ Below w.heap.size w wr) (fun _ i _ => place.length - (intOf i).toNat)
  case atStart => exact ⟨0, s, v, k, ty, vv, by omega, rfl, rfl, by simp [Hid], HN.out, Below.refl _ _⟩
  case round =>
    obtain ⟨j, s', v', k', ty', vv', hj, rfl, rfl, hf, hn, hbl⟩ := hrel
    have hbs := hbl.size
    by_cases hlt : j < place.length
    · obtain ⟨b, o, rfl, _, hbB, hc⟩ := isl_get (HP.out.below hbl) hlt
      have hdr : place.drop j = place[j] :: place.drop (j + 1) := List.drop_eq_getElem_cons hlt
      rw [hdr] at hf
      generalize place[j] = x at hc hf
      have g1 : (0 : Int) ≤ (j : Int) := by omega
      have g2 : (j : Int) < (place.length : Int) := by omega
      have HF := Lib.hid hf.out
      have HNR := Lib.hid (hn.below hbl)
      have HNW := Lib.hid hn
      have HBL := Lib.hid hbl
      clear hf hn hbl hdr
      go_wp2_with fail
      with_reducible refine (kidsOf_any s' v' k' _ w.heap.size _ HNR.out).mono ?_
      rintro e w3 ⟨a3, c3, rfl, hb3, hns⟩
      have hs3 := hb3.size
      have HB3 := Lib.hid (HBL.out.trans (hb3.mono hbs))
      have HNS := Lib.hid (hns.below (hb3.mono hbs))
      clear hb3 hns
      by_cases hx0 : x < 0
      · have HE : Hid (fat s v k place = none) := by rw [Hid, HF.out]; simp only [fat]; rw [if_neg (by omega)]
        go_wp2_with fail
        go_ret2
        exact ⟨HB3.out, .inr ⟨HE.out, rfl⟩⟩
      by_cases hx1 : (flen k' : Int) ≤ x
      · have HE : Hid (fat s v k place = none) := by rw [Hid, HF.out]; simp only [fat]; rw [if_neg (by omega)]
        go_wp2_with fail
        go_ret2
        exact ⟨HB3.out, .inr ⟨HE.out, rfl⟩⟩
      obtain ⟨q, rfl⟩ : ∃ q : Nat, x = q := ⟨x.toNat, by omega⟩
      have hq : q < flen k' := by omega
      obtain ⟨bk, ok, rfl⟩ : ∃ bk ok, a3 = some ⟨bk, ok, none⟩ := by
        rcases HNS.out with rfl | ⟨b, o, rfl, _⟩
        · simp [flen] at hq
        · exact ⟨_, _, rfl⟩
      have hrow : NRow w3 0 w.heap.size k' bk ok := by
        rcases HNS.out with rfl | ⟨b, o, e, h⟩
        · simp [flen] at hq
        · cases e; exact h
      obtain ⟨s2, v2, kk, val, ⟨x2, y2, hd⟩, _, hbB2, hk0, hnk⟩ := nrow_at hrow hq
      obtain ⟨ty2, vv2, rfl⟩ : ∃ ty vv, val = .iface ty vv := by
        rcases hnk with ⟨_, _, rfl⟩ | ⟨_, _, _, rfl, _⟩
        · exact ⟨_, _, rfl⟩
        · exact ⟨_, _, rfl⟩
      have HE : Hid (fat s v k place = fat s2 v2 kk (place.drop (j + 1))) := by
        rw [Hid, HF.out]; simp only [fat]; rw [if_pos (by omega)]
        simp only [Int.toNat_natCast, hd]
      have HNK : Hid (NodeIs w 0 w.heap.size (.iface ty2 vv2) s2 v2 kk) := hnk.same (fun b _ hb => (HB3.out.block b hb).symm)
      clear hrow hd hnk
      go_wp2_with fail
      go_roundw
      case rel => exact ⟨j + 1, s2, v2, kk, ty2, vv2, by omega, by go_num, rfl, HE.out, HNK.out, HB3.out⟩
      case measure => simp [intOf]; omega
    · have HE : Hid (fat s v k place = some (s', v', k')) := by
        rw [Hid, hf.out, List.drop_eq_nil_of_le (by omega)]; rfl
      have HBL := Lib.hid hbl
      have HNW := Lib.hid hn
      clear hbl hn hf
      go_wp2_with fail
      go_ret2
      exact ⟨HBL.out, .inl ⟨s', v', k', _, HE.out, rfl, HNW.out⟩⟩
end Go.Proofs.Ytdkcbbhkoibplaa

/-! UM: A method called on an interface value. -/
namespace Go.Proofs.Ytdkcbbhkoibplaa
open Go.RowKit Go.Deep

/-- A method called on an interface value whose method is known. -/
theorem upon_method {P : Program} {o : Oper} {a : Act} {K : Act → World → Prop} {Q : Exit → Act → World → Prop} {n : Nat} {t : TypeId} {v : Value} {nm : String} {w : World} (f : FuncId) (h : (method n t v nm).run P w = .ok (f, v) w)
    (h1 : (callFunc f #[v]).run P w = .ok (.enter f #[v]) w) (h2 : o.upon P a K Q (.ok (.enter f #[v]) w)) : o.upon P a K Q (((method n t v nm).run P w).andThen fun x w' => (callFunc x.1 #[x.2]).run P w') := by
  rw [h]
  show o.upon P a K Q ((callFunc f #[v]).run P w)
  rw [h1]
  exact h2
end Go.Proofs.Ytdkcbbhkoibplaa

/-! WL0: size of a node. -/
namespace Go.Proofs.Ytdkcbbhkoibplaa
open Go.RowKit Go.Deep

set_option maxHeartbeats 400000 in
theorem varSize_any (v : Int) (w : World) :
    Calls Try.prog 141 #[.int .i64 v] w fun e w' => e = .returned (.int .i64 1) ∧ w = w' := by
  go_enter Try.func141, Try.ntmps141
  go_wp2_with fail
  go_ret
  exact ⟨rfl, rfl⟩

set_option maxRecDepth 100000 in
set_option maxHeartbeats 1000000 in
theorem symSize_any (N : Nat) : ∀ (s : Int) (a : Option Addr) (c : Nat) (k : Fo) (w : World), NSl w 0 w.heap.size a k → fsz k ≤ N → N ≤ 1000000 →
    Calls Try.prog 158 #[.agg #[.int .i64 s, .slice a (flen k) c]] w fun e w' => e = .returned (.int .i64 (1 + fsz k)) ∧ Below w.heap.size w w' := by
  induction N using Nat.strongRecOn with
  | _ N ih =>
    intro s a c k w hl hN hN2
    have hfl := flen_le_sz k
    have IH := Lib.hid ih
    clear ih
    go_enter Try.func158, Try.ntmps158
    go_wp2_with fail
    go_loopw [3, 9] (fun t i wr => ∃ (j : Nat) (m : Int), j ≤ flen k ∧ i = .int .i64 j ∧ t = .int .i64 m ∧ 0 ≤ m ∧ m ≤ 2000000 ∧ Hid (m + (fsz (fdrop j k) : Int) = 1 + fsz k) ∧ Below (w.heap.size + 1) (w.alloc (.cells #[.int .i64 s, .slice a (flen k) c] 165)) wr) (fun _ i _ => flen k - (intOf i).toNat)
    case atStart => exact ⟨0, 1, by omega, rfl, rfl, by omega, by omega, by simp [Hid, fdrop], Below.refl _ _⟩
    case round =>
      obtain ⟨j, m, hj, rfl, rfl, hm0, hm1, hm2, hbl⟩ := hrel
      have hsr := hbl.size
      simp at hsr
      by_cases hlt : j < flen k
      · rcases hl with rfl | ⟨b, o, rfl, hrow⟩
        · simp [flen] at hlt
        obtain ⟨s', v', kk, val, ⟨x, y, hd⟩, _, hbB, hk0, hn⟩ := nrow_at (hrow.below (after_top hbl)) hlt
        have hkN := fsz_kid hd
        have hd2 := fsz_drop j k
        rw [hd] at hd2
        simp only [fsz] at hd2
        have hm3 := hm2.out
        rw [hd] at hm3
        simp only [fsz] at hm3
        have HM := Lib.hid hm3
        have HBL := Lib.hid hbl
        clear hd hrow hm3 hm2 hbl
        rcases hn with ⟨hs', rfl, rfl⟩ | ⟨hs', a2, c2, rfl, hn2⟩
        · have HM1 : Hid (m + 1 + (fsz (fdrop (j + 1) k) : Int) = 1 + fsz k) := by have := HM.out; simp only [Hid, fsz] at this ⊢; omega
          go_wp2_with fail
          refine upon_method 141 (by kernel_rfl) (by kernel_rfl) ?_
          go_simp
          with_reducible refine (varSize_any v' _).mono ?_
          rintro e w2 ⟨rfl, rfl⟩
          go_wp2_with fail
          refine ⟨⟨j + 1, m + 1, by omega, by go_num, rfl, by omega, by have := HM1.out; omega, HM1, HBL.out⟩, ?_⟩
          simp [intOf]; omega
        · have HM1 : Hid (m + (1 + fsz kk) + (fsz (fdrop (j + 1) k) : Int) = 1 + fsz k) := by have := HM.out; simp only [Hid] at this ⊢; omega
          have HN2 := Lib.hid hn2
          clear hn2
          go_wp2_with fail
          refine upon_method 158 (by kernel_rfl) (by kernel_rfl) ?_
          go_simp
          with_reducible refine (IH.out (fsz kk) (by omega) s' a2 c2 kk _ ?_ (Nat.le_refl _) (by omega)).mono ?_
          · exact HN2.out.mono (Nat.le_refl _) (by omega)
          rintro e w2 ⟨rfl, hb2⟩
          have HB2 := Lib.hid (HBL.out.trans (hb2.mono (by omega)))
          clear hb2
          go_wp2_with fail
          refine ⟨⟨j + 1, m + (1 + fsz kk), by omega, by go_num, rfl, by omega, by have := HM1.out; omega, HM1, HB2.out⟩, ?_⟩
          simp [intOf]; omega
      · have hm3 := hm2.out
        rw [fdrop_all (by omega)] at hm3
        simp only [fsz] at hm3
        have HM : Hid (m = 1 + fsz k) := by simp only [Hid]; omega
        clear hm3 hm2
        go_wp2_with fail
        go_ret
        exact ⟨by rw [← HM.out]; rfl, after_top hbl⟩

end Go.Proofs.Ytdkcbbhkoibplaa
