/- Several texts in one: XMt, XHt, FK, P3, A1, UM, WL0, A2, A2t, AD0, S1, S2. -/
import Derived.Test.YtbnbogdglffkmaaKEw6
import Derived.Test.YtbnbogdglffkmaaKEw1
import Derived.Test.YtbnbogdglffkmaaKEw4
import Derived.Test.YtbnbogdglffkmaaKEw3
import Derived.Deep.OwnRows
import Derived.Maps.OwnOps

/-! XMt: - markTermS and heldTermS on a tree of one's own: what is marked is held. -/
namespace Go.Proofs.Ytbnbogdglffkmaa
open Go.RowKit Go.Deep

/-- What holds at the head of markTermS's loop: the first j kids are marked, the others are as they were. -/
structure MkAt (w : World) (lo B b : Nat) (k : Fo) (Ls : Nat → Nat) (m : Int) (j : Nat) (wr : World) : Prop where
  marked : Marked lo B w wr
  done : ∀ i, i < j → HdAt wr (Ls i) (Ls (i + 1)) k b 0 m i
  todo : ∀ i, j ≤ i → i < flen k → TrAt wr k b 0 Ls i

theorem MkAt.step {w wr w2 : World} {lo B b : Nat} {k : Fo} {Ls : Nat → Nat} {m : Int} {j x y : Nat} {s v : Int} {kk : Fo} {a : Option Addr} {c : Nat} (h : MkAt w lo B b k Ls m j wr) (hj : j < flen k) (hLs : ∀ i, i < flen k → Ls i ≤ Ls (i + 1)) (hLB : Ls (flen k) ≤ B) (hB : B ≤ w.heap.size)
    (hlo : lo ≤ b) (hb : b < Ls 0) (hd : fdrop j k = .node x y (s, v) kk (fdrop (j + 1) k)) (hc2 : wr.cell? ⟨b, j * 3 + 2, none⟩ = some (.slice a (flen kk) c)) {u u' : Value} (hu : wr.cell? ⟨b, j * 3, none⟩ = some u) (hu' : wr.cell? ⟨b, j * 3 + 1, none⟩ = some u')
    (hmk : Marked (Ls j) (Ls (j + 1)) ((wr.setCell ⟨b, j * 3, none⟩ (.int .i64 (cnt k m j))).setCell ⟨b, j * 3 + 1, none⟩ (.int .i64 (cnt k m j + 1))) w2) (hhd : HdS w2 (Ls j) (Ls (j + 1)) a kk (cnt k m j + 2)) : MkAt w lo B b k Ls m (j + 1) w2 := by
  have hmono : ∀ i i', i ≤ i' → i' ≤ flen k → Ls i ≤ Ls i' := fun i i' h1 h2 => by
    have := Ls_mono hLs (i' - i) i (by omega)
    rwa [show i + (i' - i) = i' from by omega] at this
  have h0j := hmono 0 j (Nat.zero_le _) (by omega)
  have hjj := hLs j hj
  have hjn := hmono (j + 1) (flen k) (by omega) (Nat.le_refl _)
  have hwr : w.heap.size ≤ wr.heap.size := h.marked.below.size
  have hbB : b < B := by omega
  -- other blocks
  have hsame : ∀ q, q ≠ b → (q < Ls j ∨ Ls (j + 1) ≤ q) → q < wr.heap.size → w2.heap[q]? = wr.heap[q]? := fun q h1 h2 h3 => by
    have e : ((wr.setCell ⟨b, j * 3, none⟩ (.int .i64 (cnt k m j))).setCell ⟨b, j * 3 + 1, none⟩ (.int .i64 (cnt k m j + 1))).heap[q]? = wr.heap[q]? := by
      rw [Below.heap_setCell _ _ _ _ (fun e => h1 (by simpa using e)), Below.heap_setCell _ _ _ _ (fun e => h1 (by simpa using e))]
    rcases h2 with h2 | h2
    · rw [hmk.below.block q h2, e]
    · rw [hmk.far q h2 (by simpa using h3), e]
  -- the row's own cells
  have hcell : ∀ o, o ≠ j * 3 → o ≠ j * 3 + 1 → w2.cell? ⟨b, o, none⟩ = wr.cell? ⟨b, o, none⟩ := fun o h1 h2 => by
    rw [hmk.below.cell (by simp; omega), World.cell?_setCell_other _ _ _ _ (ne_offT (by omega)), World.cell?_setCell_other _ _ _ _ (ne_offT (by omega))]
  have hfro : ∀ o, w2.frozen? ⟨b, o, none⟩ = wr.frozen? ⟨b, o, none⟩ := fun o => by
    rw [hmk.below.frozen (by simp; omega), World.frozen?_setCell, World.frozen?_setCell]
  refine ⟨?_, fun i hi => ?_, fun i h1 h2 => ?_⟩
  · have m1 := Marked.set (lo := lo) (B := B) hlo hbB (by omega) hu (cnt k m j)
    have m2 := Marked.set (lo := lo) (B := B) (w := wr.setCell ⟨b, j * 3, none⟩ (.int .i64 (cnt k m j))) (o := j * 3 + 1) hlo hbB (by omega) (by rw [World.cell?_setCell_other _ _ _ _ (ne_offT (by omega))]; exact hu') (cnt k m j + 1)
    exact h.marked.trans (m1.trans (m2.trans (hmk.mono (by omega) (by omega) (by simp; omega))))
  · by_cases hij : i = j
    · subst hij
      refine ⟨x, y, s, v, kk, a, c, hd, ?_, ?_, ?_, hhd⟩
      · rw [Nat.zero_add, hmk.below.cell (by simp; omega), World.cell?_setCell_other _ _ _ _ (ne_offT (by omega))]
        exact World.cell?_setCell_same _ _ _ hu
      · rw [Nat.zero_add, hmk.below.cell (by simp; omega)]
        exact World.cell?_setCell_same _ _ _ (by rw [World.cell?_setCell_other _ _ _ _ (ne_offT (by omega))]; exact hu')
      · rw [Nat.zero_add, hcell _ (by omega) (by omega)]; exact hc2
    · obtain ⟨x', y', s', v', kk', a', c', e, d1, d2, d3, d4⟩ := h.done i (by omega)
      have g1 := hmono 0 i (Nat.zero_le _) (by omega)
      have g2 := hmono (i + 1) j (by omega) (by omega)
      refine ⟨x', y', s', v', kk', a', c', e, ?_, ?_, ?_, d4.same fun q q1 q2 => hsame q (by omega) (.inl (by omega)) (by omega)⟩
      · rw [Nat.zero_add] at d1 ⊢; rw [hcell _ (by omega) (by omega)]; exact d1
      · rw [Nat.zero_add] at d2 ⊢; rw [hcell _ (by omega) (by omega)]; exact d2
      · rw [Nat.zero_add] at d3 ⊢; rw [hcell _ (by omega) (by omega)]; exact d3
  · obtain ⟨x', y', s', v', kk', a', c', e, d1, d2, d3, d4, d5, d6⟩ := h.todo i (by omega) h2
    have g1 := hmono 0 i (Nat.zero_le _) (by omega)
    have g2 := hmono (j + 1) i (by omega) (by omega)
    have g3 := hmono (i + 1) (flen k) (by omega) (Nat.le_refl _)
    rw [Nat.zero_add] at d1 d2 d3 d4 d5
    refine ⟨x', y', s', v', kk', a', c', e, ?_, ?_, ?_, ?_, ?_, d6.same fun q q1 q2 => hsame q (by omega) (.inr (by omega)) (by omega)⟩
    · rw [Nat.zero_add, hcell _ (by omega) (by omega)]; exact d1
    · rw [Nat.zero_add, hcell _ (by omega) (by omega)]; exact d2
    · rw [Nat.zero_add, hfro]; exact d3
    · rw [Nat.zero_add, hfro]; exact d4
    · rw [Nat.zero_add, hcell _ (by omega) (by omega)]; exact d5

end Go.Proofs.Ytbnbogdglffkmaa

/-! XHt: - heldTermS, heldTerm: a tree that counts up is held; markTerm on a tree. -/
namespace Go.Proofs.Ytbnbogdglffkmaa
open Go.RowKit Go.Deep

end Go.Proofs.Ytbnbogdglffkmaa

/-! FK: The kids of a well-formed term are. -/
namespace Go.Proofs.Ytbnbogdglffkmaa
open Go.RowKit Go.Deep

theorem fok_kid {i : Nat} {k : Fo} {x y : Nat} {s v : Int} {kk r : Fo} (h : fok k = true) (hd : fdrop i k = .node x y (s, v) kk r) : okN s v (flen kk) = true ∧ fok kk = true := by
  have hf : ∀ (i : Nat) (k : Fo), fok k = true → fok (fdrop i k) = true := by
    intro i
    induction i with
    | zero => intro k h; exact h
    | succ n ih =>
      intro k h
      cases k with
      | nil => rfl
      | node _ _ p kk r => simp only [fok, Bool.and_eq_true] at h; exact ih r h.2
  have h4 := hf i k h
  rw [hd] at h4
  simp only [fok, Bool.and_eq_true] at h4
  exact h4.1
end Go.Proofs.Ytbnbogdglffkmaa

/-! P3: - placesOf: the positions of a node. -/
namespace Go.Proofs.Ytbnbogdglffkmaa
open Go.RowKit Go.Deep

theorem fpl_len : ∀ (k : Fo) (i : Nat), (fpl k i).length = fsz k
  | .nil, _ => rfl
  | .node _ _ _ k r, i => by simp only [fpl, fsz, List.length_append, List.length_map, List.length_cons, fpl_len k 0, fpl_len r (i + 1)]; omega
theorem places_len (k : Fo) : (places k).length = 1 + fsz k := by simp [places, fpl_len]; omega
theorem fpl_deep : ∀ (k : Fo) (i : Nat) (p : List Int), p ∈ fpl k i → p.length ≤ fsz k
  | .nil, _, _, h => by simp [fpl] at h
  | .node _ _ _ k r, i, p, h => by
    simp only [fpl, List.map_cons, List.cons_append, List.mem_cons, List.mem_append, List.mem_map] at h
    rcases h with rfl | ⟨q, hq, rfl⟩ | h
    · simp [fsz]
    · have := fpl_deep k 0 q hq; simp only [fsz, List.length_cons]; omega
    · have := fpl_deep r (i + 1) p h; simp only [fsz]; omega
theorem places_deep {k : Fo} {p : List Int} (h : p ∈ places k) : p.length ≤ fsz k := by
  simp only [places, List.mem_cons] at h
  rcases h with rfl | h
  · exact Nat.zero_le _
  · exact fpl_deep k 0 p h

def PlPost (k : Fo) (w : World) (e : Ending) (w' : World) : Prop :=
  ∃ A C, e = .returned (.slice A (places k).length C) ∧ Below w.heap.size w w' ∧ RSl w' w.heap.size w'.heap.size A (places k)

/-- The first row: the root's own. -/
theorem rown_start {w w3 : World} (hb : Below ((w.alloc (.cells #[] 3)).alloc (.cells #[.slice (some ⟨w.heap.size, 0, none⟩) 0 0] 64)).heap.size ((w.alloc (.cells #[] 3)).alloc (.cells #[.slice (some ⟨w.heap.size, 0, none⟩) 0 0] 64)) w3) :
    ROwn w3 w.heap.size [[]] (some ⟨w.heap.size + 1, 0, none⟩) 1 := by
  refine ROwn.low (w := (w.alloc (.cells #[] 3)).alloc (.cells #[.slice (some ⟨w.heap.size, 0, none⟩) 0 0] 64)) ⟨[.slice (some ⟨w.heap.size, 0, none⟩) 0 0], ⟨rfl, .inr ⟨w.heap.size + 1, 1, #[.slice (some ⟨w.heap.size, 0, none⟩) 0 0], rfl, by omega, ?_, Nat.le_refl _, by decide, rfl, rfl⟩⟩, fun i r hr => ?_⟩ hb (Nat.le_refl _)
  · have := heap_alloc_new (w.alloc (.cells #[] 3)) (.cells #[.slice (some ⟨w.heap.size, 0, none⟩) 0 0] 64)
    simpa using this
  · have hi : i = 0 := by
      have := (List.getElem?_eq_some_iff.1 hr).1
      simp at this
      exact this
    subst hi
    simp at hr
    subst hr
    exact ⟨_, 0, w.heap.size, w.heap.size, rfl, ⟨.inl rfl, Nat.zero_le _⟩, Nat.le_refl _, by simp; omega, fun g hg => .inr (by simp [Value.ownBlock] at hg; omega)⟩

/-- What holds at the head of the inner loop: the rows so far; the rows inn that are gone through, which nothing writes. -/
structure PlIn (w : World) (base : Nat) (L H : Nat) (Ain : Option Addr) (inn rows : List (List Int)) (A : Option Addr) (C : Nat) (wr : World) : Prop where
  below : Below w.heap.size w wr
  own : ROwn wr base rows A C
  inn : RSl wr L H Ain inn
  top : H ≤ wr.heap.size
  apart : ∀ g, (Value.slice A rows.length C).ownBlock = some g → g < L ∨ H ≤ g

theorem PlIn.step {w wr w4 w5 : World} {base L H : Nat} {Ain : Option Addr} {inn rows : List (List Int)} {A A' A4 : Option Addr} {C C' C4 : Nat} {r : List Int} {blk : Obj} {xs : List Value} (h : PlIn w base L H Ain inn rows A C wr) (hw : w.heap.size ≤ base) (hbase : base ≤ wr.heap.size)
    (hown : wr.ownsRow base 64 1 (.slice A rows.length C) rows.length xs)
    (hall : ∀ (i : Nat) (r : List Int), rows[i]? = some r → ∃ a' c' L H, xs[i]? = some (Value.slice a' r.length c') ∧ ISc wr L H a' c' r ∧ base ≤ L ∧ H ≤ wr.heap.size ∧ (∀ g, (Value.slice A rows.length C).ownBlock = some g → g < L ∨ H ≤ g))
    (hb4 : Below wr.heap.size wr w4) (hi4 : ISc w4 wr.heap.size w4.heap.size A4 C4 r) (hown5 : w5.ownsRow base 64 1 (.slice A' (rows.length + 1) C') (rows.length + 1) (xs ++ [.slice A4 r.length C4]))
    (hgrow : (w4.alloc blk).grownBy w5 (Value.slice A rows.length C).ownBlock) (hat : (Value.slice A' (rows.length + 1) C').ownBlock = (Value.slice A rows.length C).ownBlock ∨ (Value.slice A' (rows.length + 1) C').ownBlock = some (w4.heap.size + 1)) :
    PlIn w base L H Ain inn (rows ++ [r]) A' C' w5 := by
  have hs4 := hb4.size
  have hs5 := hgrow.size
  simp at hs5
  have htop := h.top
  refine ⟨?_, ROwn.append hown hall hown5 hb4 hi4 hbase hgrow hat, h.inn.same (fun b h1 h2 => ?_), by omega, fun g hg => ?_⟩
  · exact ((h.below.trans (hb4.mono (by omega))).alloc (by omega) _).grown hgrow (by simp; omega) (fun g hg => by have := (hown.lt g hg).1; omega)
  · rw [hgrow.block b (by simp; omega) (fun e => by have := h.apart b e.symm; omega), Below.heap_alloc _ _ _ (by omega), hb4.block b (by omega)]
  · have hl : (rows ++ [r]).length = rows.length + 1 := by simp
    rw [hl] at hg
    rcases hat with h1 | h1
    · exact h.apart g (by rw [← h1]; exact hg)
    · rw [h1] at hg; simp at hg; omega

/-- A new row was made and appended to: nothing old has turned. -/
theorem pl_low {w w7 : World} {o : Obj} {n : Nat} {C : Nat} (h : (w.alloc o).grownBy w7 (Value.slice (some ⟨w.heap.size, 0, none⟩) n C).ownBlock) : Below w.heap.size w w7 :=
  ((Below.refl _ _).alloc (Nat.le_refl _) o).grown h (by simp) (fun g hg => by simp [Value.ownBlock] at hg; omega)

theorem rsl_at {w : World} {lo B : Nat} {a : Option Addr} {rows : List (List Int)} {i : Nat} (h : RSl w lo B a rows) (hi : i < rows.length) :
    ∃ b o a' c' r, a = some ⟨b, o, none⟩ ∧ lo ≤ b ∧ b < B ∧ rows[i]? = some r ∧ w.cell? ⟨b, o + i, none⟩ = some (.slice a' r.length c') ∧ ISl w lo B a' r := by
  rcases h with rfl | ⟨b, o, e, h1, h2, h3⟩
  · simp at hi
  · have hr : rows[i]? = some rows[i] := List.getElem?_eq_getElem hi
    obtain ⟨a', c', hc, hs⟩ := h3 i _ hr
    exact ⟨b, o, a', c', _, e, h1, h2, hr, hc, hs.1⟩
theorem rsl_at2 {w : World} {lo B : Nat} {a : Option Addr} {rows : List (List Int)} {i : Nat} (h : RSl w lo B a rows) (hi : i < rows.length) :
    ∃ b o a' c' r, a = some ⟨b, o, none⟩ ∧ lo ≤ b ∧ b < B ∧ rows[i]? = some r ∧ w.cell? ⟨b, o + i, none⟩ = some (.slice a' r.length c') ∧ ISc w lo B a' c' r := by
  rcases h with rfl | ⟨b, o, e, h1, h2, h3⟩
  · simp at hi
  · have hr : rows[i]? = some rows[i] := List.getElem?_eq_getElem hi
    obtain ⟨a', c', hc, hs⟩ := h3 i _ hr
    exact ⟨b, o, a', c', _, e, h1, h2, hr, hc, hs⟩

end Go.Proofs.Ytbnbogdglffkmaa

/-! A1: - nodeAt: the node that stands at a place. -/
namespace Go.Proofs.Ytbnbogdglffkmaa
open Go.RowKit Go.Deep

theorem isl_get {w : World} {lo B : Nat} {a : Option Addr} {xs : List Int} {i : Nat} (h : ISl w lo B a xs) (hi : i < xs.length) :
    ∃ b o, a = some ⟨b, o, none⟩ ∧ lo ≤ b ∧ b < B ∧ w.cell? ⟨b, o + i, none⟩ = some (.int .i64 xs[i]) := by
  rcases h with rfl | ⟨b, o, e, h1, h2, h3⟩
  · simp at hi
  · exact ⟨b, o, e, h1, h2, h3 i _ (List.getElem?_eq_getElem hi)⟩

/-- What stands at a place. -/
def fat : Int → Int → Fo → List Int → Option (Int × Int × Fo)
  | s, v, k, [] => some (s, v, k)
  | _, _, k, i :: ps => if 0 ≤ i ∧ i < (flen k : Int) then (match fdrop i.toNat k with
    | .node _ _ (s', v') kk _ => fat s' v' kk ps
    | .nil => none) else none

def NaPost (s v : Int) (k : Fo) (place : List Int) (w : World) (e : Ending) (w' : World) : Prop :=
  Below w.heap.size w w' ∧ ((∃ s' v' k' nv, fat s v k place = some (s', v', k') ∧ e = .returned (.tuple #[nv, .bool true]) ∧ NodeIs w 0 w.heap.size nv s' v' k') ∨ (fat s v k place = none ∧ e = .returned (.tuple #[.nilIface, .bool false])))

end Go.Proofs.Ytbnbogdglffkmaa

/-! UM: A method called on an interface value. -/
namespace Go.Proofs.Ytbnbogdglffkmaa
open Go.RowKit Go.Deep

/-- A method called on an interface value whose method is known. -/
theorem upon_method {P : Program} {o : Oper} {a : Act} {K : Act → World → Prop} {Q : Exit → Act → World → Prop} {n : Nat} {t : TypeId} {v : Value} {nm : String} {w : World} (f : FuncId) (h : (method n t v nm).run P w = .ok (f, v) w)
    (h1 : (callFunc f #[v]).run P w = .ok (.enter f #[v]) w) (h2 : o.upon P a K Q (.ok (.enter f #[v]) w)) : o.upon P a K Q (((method n t v nm).run P w).andThen fun x w' => (callFunc x.1 #[x.2]).run P w') := by
  rw [h]
  show o.upon P a K Q ((callFunc f #[v]).run P w)
  rw [h1]
  exact h2
end Go.Proofs.Ytbnbogdglffkmaa

/-! WL0: - size of a node. -/
namespace Go.Proofs.Ytbnbogdglffkmaa
open Go.RowKit Go.Deep

end Go.Proofs.Ytbnbogdglffkmaa

/-! A2: - The term that a node stands for, made anew. -/
namespace Go.Proofs.Ytbnbogdglffkmaa
open Go.RowKit Go.Deep
attribute [local go_sem ↓] Go.wp_at_zero Go.wp_at_succ

def TmPost (s v : Int) (k : Fo) (w : World) (e : Ending) (w' : World) : Prop :=
  ∃ a c, e = .returned (.agg #[.int .i64 s, .int .i64 v, .slice a (flen k) c]) ∧ Below w.heap.size w w' ∧ Sl w' w.heap.size w'.heap.size a k

theorem make_termsA (n : Nat) (hn : n ≤ 1048576) (w : World) :
    (Instr.makeSlice 29 (.int .i64 (n : Int)) (.int .i64 (n : Int))).run Try.prog w = .ok (.slice (some ⟨w.heap.size, 0, none⟩) n n) (w.alloc (.cells (madeCells #[.int .i64 0, .int .i64 0, .slice none 0 0] (n * 3)) 31)) := by
  obtain ⟨i, hi, hz, hs, hb⟩ := Try.infoTerm
  have := run_make (P := Try.prog) w 29 31 i _ Try.underlying29 hi hz .i64 .i64 (n : Int) (n : Int) (by omega) (by omega) (by rw [hb]; omega) (by omega)
  rw [hs] at this
  simpa [Value.cells] using this
theorem made_atA (n i : Nat) (z : Array Value) (h : i < n) : (madeCells z n)[i]? = some (z[i % z.size]!) := by simp [madeCells, h]

/-- What holds at the head of term's loop: the first j kids are made. -/
structure TmAt (w : World) (s : Int) (k : Fo) (j : Nat) (wr : World) : Prop where
  below : Below w.heap.size w wr
  size : w.heap.size + 4 ≤ wr.heap.size
  t0 : wr.cell? ⟨w.heap.size + 1 + 1, 0, none⟩ = some (.int .i64 s)
  t1 : wr.cell? ⟨w.heap.size + 1 + 1, 1, none⟩ = some (.int .i64 0)
  t2 : wr.cell? ⟨w.heap.size + 1 + 1, 2, none⟩ = some (.slice (some ⟨w.heap.size + 1 + 1 + 1, 0, none⟩) (flen k) (flen k))
  r0 : wr.cell? ⟨w.heap.size + 1, 0, none⟩ = some (.int .i64 0)
  r1 : wr.cell? ⟨w.heap.size + 1, 1, none⟩ = some (.int .i64 0)
  r2 : wr.cell? ⟨w.heap.size + 1, 2, none⟩ = some (.slice none 0 0)
  q0 : wr.frozen? ⟨w.heap.size + 1, 0, none⟩ = false
  q1 : wr.frozen? ⟨w.heap.size + 1, 1, none⟩ = false
  q2 : wr.frozen? ⟨w.heap.size + 1, 2, none⟩ = false
  row : ∃ f : Nat → Value, wr.rowIs (w.heap.size + 1 + 1 + 1) 31 (flen k * 3) f ∧ ∀ i, i < j → ∃ x y s v kk a c, fdrop i k = .node x y (s, v) kk (fdrop (i + 1) k) ∧
    f (i * 3) = .int .i64 s ∧ f (i * 3 + 1) = .int .i64 v ∧ f (i * 3 + 2) = .slice a (flen kk) c ∧ Sl wr (w.heap.size + 4) wr.heap.size a kk

theorem TmAt.start (w : World) (s : Int) (k : Fo) (x : Value) (y : Value) : TmAt w s k 0 ((((w.alloc (.cells #[x, y] 63)).alloc (.cells #[.int .i64 0, .int .i64 0, .slice none 0 0] 31)).alloc (.cells #[.int .i64 s, .int .i64 0, .slice (some ⟨w.heap.size + 1 + 1 + 1, 0, none⟩) (flen k) (flen k)] 31)).alloc (.cells (madeCells #[.int .i64 0, .int .i64 0, .slice none 0 0] (flen k * 3)) 31)) := by
  refine ⟨((((Below.refl _ _).alloc (Nat.le_refl _) _).alloc (by simp) _).alloc (by simp; omega) _).alloc (by simp; omega) _, by simp, ?_, ?_, ?_, ?_, ?_, ?_, ?_, ?_, ?_, ?_⟩
  · rw [World.cell?_alloc_lt _ _ _ (by simp), World.cell?_alloc_at _ _ _ _ (by simp)]; rfl
  · rw [World.cell?_alloc_lt _ _ _ (by simp), World.cell?_alloc_at _ _ _ _ (by simp)]; rfl
  · rw [World.cell?_alloc_lt _ _ _ (by simp), World.cell?_alloc_at _ _ _ _ (by simp)]; rfl
  · rw [World.cell?_alloc_lt _ _ _ (by simp), World.cell?_alloc_lt _ _ _ (by simp), World.cell?_alloc_at _ _ _ _ (by simp)]; rfl
  · rw [World.cell?_alloc_lt _ _ _ (by simp), World.cell?_alloc_lt _ _ _ (by simp), World.cell?_alloc_at _ _ _ _ (by simp)]; rfl
  · rw [World.cell?_alloc_lt _ _ _ (by simp), World.cell?_alloc_lt _ _ _ (by simp), World.cell?_alloc_at _ _ _ _ (by simp)]; rfl
  · rw [World.frozen?_alloc_past _ _ _ (by simp), World.frozen?_alloc_past _ _ _ (by simp), World.frozen?_alloc_at _ _ _ _ (by simp)]
  · rw [World.frozen?_alloc_past _ _ _ (by simp), World.frozen?_alloc_past _ _ _ (by simp), World.frozen?_alloc_at _ _ _ _ (by simp)]
  · rw [World.frozen?_alloc_past _ _ _ (by simp), World.frozen?_alloc_past _ _ _ (by simp), World.frozen?_alloc_at _ _ _ _ (by simp)]
  · refine ⟨fun i => #[Value.int .i64 0, .int .i64 0, .slice none 0 0][i % 3]!, ?_, fun i hi => by omega⟩
    have := World.rowIs_alloc (((w.alloc (.cells #[x, y] 63)).alloc (.cells #[.int .i64 0, .int .i64 0, .slice none 0 0] 31)).alloc (.cells #[.int .i64 s, .int .i64 0, .slice (some ⟨w.heap.size + 1 + 1 + 1, 0, none⟩) (flen k) (flen k)] 31)) (madeCells #[.int .i64 0, .int .i64 0, .slice none 0 0] (flen k * 3)) 31 (fun i => #[Value.int .i64 0, .int .i64 0, .slice none 0 0][i % 3]!) (fun i hi => by
      rw [size_madeCells] at hi
      exact made_atA _ _ _ hi)
    rw [size_madeCells] at this
    simp only [World.size_alloc] at this
    exact this
theorem TmAt.step {w wr w2 : World} {s0 : Int} {k : Fo} {j x y : Nat} {s v : Int} {kk : Fo} {a : Option Addr} {c : Nat} (h : TmAt w s0 k j wr) (hd : fdrop j k = .node x y (s, v) kk (fdrop (j + 1) k)) (hb : Below wr.heap.size wr w2) (hl : Sl w2 wr.heap.size w2.heap.size a kk) :
    TmAt w s0 k (j + 1) (((w2.setCell ⟨w.heap.size + 1 + 1 + 1, j * 3, none⟩ (.int .i64 s)).setCell ⟨w.heap.size + 1 + 1 + 1, j * 3 + 1, none⟩ (.int .i64 v)).setCell ⟨w.heap.size + 1 + 1 + 1, j * 3 + 2, none⟩ (.slice a (flen kk) c)) := by
  have hs := h.size
  have hs2 := hb.size
  obtain ⟨f, hf, hall⟩ := h.row
  have hf2 := hf.of_block (hb.block _ (by omega))
  have hsame : ∀ {L H : Nat}, w.heap.size + 3 < L → Same L H w2 (((w2.setCell ⟨w.heap.size + 1 + 1 + 1, j * 3, none⟩ (.int .i64 s)).setCell ⟨w.heap.size + 1 + 1 + 1, j * 3 + 1, none⟩ (.int .i64 v)).setCell ⟨w.heap.size + 1 + 1 + 1, j * 3 + 2, none⟩ (.slice a (flen kk) c)) := fun hL =>
    ((Same.setCell (fun _ _ _ => rfl) (.inl (by simp; omega)) _).setCell (.inl (by simp; omega)) _).setCell (.inl (by simp; omega)) _
  have hcell : ∀ {q : Addr} {u : Value}, wr.cell? q = some u → q.block < w.heap.size + 3 → (((w2.setCell ⟨w.heap.size + 1 + 1 + 1, j * 3, none⟩ (.int .i64 s)).setCell ⟨w.heap.size + 1 + 1 + 1, j * 3 + 1, none⟩ (.int .i64 v)).setCell ⟨w.heap.size + 1 + 1 + 1, j * 3 + 2, none⟩ (.slice a (flen kk) c)).cell? q = some u := fun {q u} hq hlt => by
    rw [World.cell?_setCell_other _ _ _ _ (by intro h'; have := congrArg Addr.block h'; simp at this; omega), World.cell?_setCell_other _ _ _ _ (by intro h'; have := congrArg Addr.block h'; simp at this; omega), World.cell?_setCell_other _ _ _ _ (by intro h'; have := congrArg Addr.block h'; simp at this; omega), hb.cell (World.block_lt_of_cell? _ _ hq)]
    exact hq
  have hfro : ∀ {q : Addr}, wr.frozen? q = false → q.block < w.heap.size + 3 → (((w2.setCell ⟨w.heap.size + 1 + 1 + 1, j * 3, none⟩ (.int .i64 s)).setCell ⟨w.heap.size + 1 + 1 + 1, j * 3 + 1, none⟩ (.int .i64 v)).setCell ⟨w.heap.size + 1 + 1 + 1, j * 3 + 2, none⟩ (.slice a (flen kk) c)).frozen? q = false := fun {q} hq hlt => by
    rw [World.frozen?_setCell, World.frozen?_setCell, World.frozen?_setCell, hb.frozen (by omega)]
    exact hq
  refine ⟨(((h.below.trans (hb.mono (by omega))).setCell (by simp; omega) _).setCell (by simp; omega) _).setCell (by simp; omega) _, by simp; omega, hcell h.t0 (by simp), hcell h.t1 (by simp), hcell h.t2 (by simp), hcell h.r0 (by simp), hcell h.r1 (by simp), hcell h.r2 (by simp), hfro h.q0 (by simp), hfro h.q1 (by simp), hfro h.q2 (by simp), ⟨_, ((hf2.set _ _).set _ _).set _ _, fun i hi => ?_⟩⟩
  by_cases hij : i = j
  · subst hij
    exact ⟨x, y, s, v, kk, a, c, hd, by simp, by simp, by simp, (hl.same (hsame (by omega))).mono (by omega) (by simp)⟩
  · obtain ⟨x', y', s', v', k', a', c', e, h0, h1, h2, hsl⟩ := hall i (by omega)
    refine ⟨x', y', s', v', k', a', c', e, ?_, ?_, ?_, ((hsl.same (fun b h1 h2 => hb.block b h2)).same (hsame (by omega))).mono (Nat.le_refl _) (by simp; omega)⟩
    · rw [if_neg (by omega), if_neg (by omega), if_neg (by omega)]; exact h0
    · rw [if_neg (by omega), if_neg (by omega), if_neg (by omega)]; exact h1
    · rw [if_neg (by omega), if_neg (by omega), if_neg (by omega)]; exact h2
theorem TmAt.sl {w wr : World} {s : Int} {k : Fo} {j : Nat} (h : TmAt w s k j wr) (hj : flen k ≤ j) : Sl wr (w.heap.size + 3) wr.heap.size (some ⟨w.heap.size + 1 + 1 + 1, 0, none⟩) k := by
  have hs := h.size
  obtain ⟨f, hf, hall⟩ := h.row
  refine .inr ⟨_, 0, rfl, row_of_all k _ 0 (by omega) (by omega) fun i hi => ?_⟩
  obtain ⟨x, y, s, v, kk, a, c, e, h0, h1, h2, hs⟩ := hall i (by omega)
  refine ⟨x, y, s, v, kk, a, c, e, ?_, ?_, ?_, hs.mono (by omega) (Nat.le_refl _)⟩
  · rw [Nat.zero_add, ← h0]; exact hf.cell (by omega)
  · rw [Nat.zero_add, ← h1]; exact hf.cell (by omega)
  · rw [Nat.zero_add, ← h2]; exact hf.cell (by omega)
theorem tm_end {w w1 : World} {s v : Int} {k : Fo} {a : Option Addr} {c : Nat} (hb : Below w.heap.size w w1) (hl : Sl w1 (w.heap.size + 3) w1.heap.size a k) (x y z : Value) :
    TmPost s v k w (.returned (.agg #[.int .i64 s, .int .i64 v, .slice a (flen k) c])) (((w1.setCell ⟨w.heap.size + 1, 0, none⟩ x).setCell ⟨w.heap.size + 1, 1, none⟩ y).setCell ⟨w.heap.size + 1, 2, none⟩ z) := by
  refine ⟨a, c, rfl, ((hb.setCell (by simp) _).setCell (by simp) _).setCell (by simp) _, ?_⟩
  have hs : Same (w.heap.size + 3) w1.heap.size w1 (((w1.setCell ⟨w.heap.size + 1, 0, none⟩ x).setCell ⟨w.heap.size + 1, 1, none⟩ y).setCell ⟨w.heap.size + 1, 2, none⟩ z) :=
    (((Same.setCell (fun _ _ _ => rfl) (.inl (by simp)) _).setCell (.inl (by simp)) _).setCell (.inl (by simp)) _)
  exact (hl.same hs).mono (by omega) (by simp)

end Go.Proofs.Ytbnbogdglffkmaa

/-! A2t: - The term that a node stands for, made anew, is a tree of one's own. -/
namespace Go.Proofs.Ytbnbogdglffkmaa
open Go.RowKit Go.Deep
attribute [local go_sem ↓] Go.wp_at_zero Go.wp_at_succ

/-- The terms k lie there as a tree of one's own. -/
def TX (w : World) (lo B : Nat) (a : Option Addr) (k : Fo) : Prop := Sl w lo B a k ∧ TrS w lo B a k
theorem TX.same {w w' : World} {lo B : Nat} {a : Option Addr} {k : Fo} (hb : Same lo B w w') (h : TX w lo B a k) : TX w' lo B a k := ⟨h.1.same hb, h.2.same hb⟩
theorem TX.mono {w : World} {lo lo' B B' : Nat} {a : Option Addr} {k : Fo} (hlo : lo' ≤ lo) (hB : B ≤ B') (h : TX w lo B a k) : TX w lo' B' a k := ⟨h.1.mono hlo hB, h.2.mono hlo hB⟩

def TmPostT (s v : Int) (k : Fo) (w : World) (e : Ending) (w' : World) : Prop :=
  ∃ a c, e = .returned (.agg #[.int .i64 s, .int .i64 v, .slice a (flen k) c]) ∧ Below w.heap.size w w' ∧ TX w' w.heap.size w'.heap.size a k

/-- What holds at the head of term's loop: the first j kids are made. -/
structure TmAtT (w : World) (s : Int) (k : Fo) (j : Nat) (wr : World) : Prop where
  below : Below w.heap.size w wr
  size : w.heap.size + 4 ≤ wr.heap.size
  t0 : wr.cell? ⟨w.heap.size + 1 + 1, 0, none⟩ = some (.int .i64 s)
  t1 : wr.cell? ⟨w.heap.size + 1 + 1, 1, none⟩ = some (.int .i64 0)
  t2 : wr.cell? ⟨w.heap.size + 1 + 1, 2, none⟩ = some (.slice (some ⟨w.heap.size + 1 + 1 + 1, 0, none⟩) (flen k) (flen k))
  r0 : wr.cell? ⟨w.heap.size + 1, 0, none⟩ = some (.int .i64 0)
  r1 : wr.cell? ⟨w.heap.size + 1, 1, none⟩ = some (.int .i64 0)
  r2 : wr.cell? ⟨w.heap.size + 1, 2, none⟩ = some (.slice none 0 0)
  q0 : wr.frozen? ⟨w.heap.size + 1, 0, none⟩ = false
  q1 : wr.frozen? ⟨w.heap.size + 1, 1, none⟩ = false
  q2 : wr.frozen? ⟨w.heap.size + 1, 2, none⟩ = false
  row : ∃ f : Nat → Value, wr.rowIs (w.heap.size + 1 + 1 + 1) 31 (flen k * 3) f ∧ ∃ Ls : Nat → Nat, Ls 0 = w.heap.size + 4 ∧ (∀ i, i < j → Ls i ≤ Ls (i + 1)) ∧ Ls j ≤ wr.heap.size ∧ ∀ i, i < j → ∃ x y s v kk a c, fdrop i k = .node x y (s, v) kk (fdrop (i + 1) k) ∧
    f (i * 3) = .int .i64 s ∧ f (i * 3 + 1) = .int .i64 v ∧ f (i * 3 + 2) = .slice a (flen kk) c ∧ TX wr (Ls i) (Ls (i + 1)) a kk

theorem TmAtT.start (w : World) (s : Int) (k : Fo) (x : Value) (y : Value) : TmAtT w s k 0 ((((w.alloc (.cells #[x, y] 63)).alloc (.cells #[.int .i64 0, .int .i64 0, .slice none 0 0] 31)).alloc (.cells #[.int .i64 s, .int .i64 0, .slice (some ⟨w.heap.size + 1 + 1 + 1, 0, none⟩) (flen k) (flen k)] 31)).alloc (.cells (madeCells #[.int .i64 0, .int .i64 0, .slice none 0 0] (flen k * 3)) 31)) := by
  refine ⟨((((Below.refl _ _).alloc (Nat.le_refl _) _).alloc (by simp) _).alloc (by simp; omega) _).alloc (by simp; omega) _, by simp, ?_, ?_, ?_, ?_, ?_, ?_, ?_, ?_, ?_, ?_⟩
  · rw [World.cell?_alloc_lt _ _ _ (by simp), World.cell?_alloc_at _ _ _ _ (by simp)]; rfl
  · rw [World.cell?_alloc_lt _ _ _ (by simp), World.cell?_alloc_at _ _ _ _ (by simp)]; rfl
  · rw [World.cell?_alloc_lt _ _ _ (by simp), World.cell?_alloc_at _ _ _ _ (by simp)]; rfl
  · rw [World.cell?_alloc_lt _ _ _ (by simp), World.cell?_alloc_lt _ _ _ (by simp), World.cell?_alloc_at _ _ _ _ (by simp)]; rfl
  · rw [World.cell?_alloc_lt _ _ _ (by simp), World.cell?_alloc_lt _ _ _ (by simp), World.cell?_alloc_at _ _ _ _ (by simp)]; rfl
  · rw [World.cell?_alloc_lt _ _ _ (by simp), World.cell?_alloc_lt _ _ _ (by simp), World.cell?_alloc_at _ _ _ _ (by simp)]; rfl
  · rw [World.frozen?_alloc_past _ _ _ (by simp), World.frozen?_alloc_past _ _ _ (by simp), World.frozen?_alloc_at _ _ _ _ (by simp)]
  · rw [World.frozen?_alloc_past _ _ _ (by simp), World.frozen?_alloc_past _ _ _ (by simp), World.frozen?_alloc_at _ _ _ _ (by simp)]
  · rw [World.frozen?_alloc_past _ _ _ (by simp), World.frozen?_alloc_past _ _ _ (by simp), World.frozen?_alloc_at _ _ _ _ (by simp)]
  · refine ⟨fun i => #[Value.int .i64 0, .int .i64 0, .slice none 0 0][i % 3]!, ?_, fun _ => w.heap.size + 4, rfl, fun i hi => by omega, by simp, fun i hi => by omega⟩
    have := World.rowIs_alloc (((w.alloc (.cells #[x, y] 63)).alloc (.cells #[.int .i64 0, .int .i64 0, .slice none 0 0] 31)).alloc (.cells #[.int .i64 s, .int .i64 0, .slice (some ⟨w.heap.size + 1 + 1 + 1, 0, none⟩) (flen k) (flen k)] 31)) (madeCells #[.int .i64 0, .int .i64 0, .slice none 0 0] (flen k * 3)) 31 (fun i => #[Value.int .i64 0, .int .i64 0, .slice none 0 0][i % 3]!) (fun i hi => by
      rw [size_madeCells] at hi
      exact made_atA _ _ _ hi)
    rw [size_madeCells] at this
    simp only [World.size_alloc] at this
    exact this
theorem TmAtT.step {w wr w2 : World} {s0 : Int} {k : Fo} {j x y : Nat} {s v : Int} {kk : Fo} {a : Option Addr} {c : Nat} (h : TmAtT w s0 k j wr) (hd : fdrop j k = .node x y (s, v) kk (fdrop (j + 1) k)) (hb : Below wr.heap.size wr w2) (hl : TX w2 wr.heap.size w2.heap.size a kk) :
    TmAtT w s0 k (j + 1) (((w2.setCell ⟨w.heap.size + 1 + 1 + 1, j * 3, none⟩ (.int .i64 s)).setCell ⟨w.heap.size + 1 + 1 + 1, j * 3 + 1, none⟩ (.int .i64 v)).setCell ⟨w.heap.size + 1 + 1 + 1, j * 3 + 2, none⟩ (.slice a (flen kk) c)) := by
  have hs := h.size
  have hs2 := hb.size
  obtain ⟨f, hf, Ls, hL0, hL1, hL2, hall⟩ := h.row
  have hf2 := hf.of_block (hb.block _ (by omega))
  have hsame : ∀ {L H : Nat}, w.heap.size + 3 < L → Same L H w2 (((w2.setCell ⟨w.heap.size + 1 + 1 + 1, j * 3, none⟩ (.int .i64 s)).setCell ⟨w.heap.size + 1 + 1 + 1, j * 3 + 1, none⟩ (.int .i64 v)).setCell ⟨w.heap.size + 1 + 1 + 1, j * 3 + 2, none⟩ (.slice a (flen kk) c)) := fun hL =>
    ((Same.setCell (fun _ _ _ => rfl) (.inl (by simp; omega)) _).setCell (.inl (by simp; omega)) _).setCell (.inl (by simp; omega)) _
  have hcell : ∀ {q : Addr} {u : Value}, wr.cell? q = some u → q.block < w.heap.size + 3 → (((w2.setCell ⟨w.heap.size + 1 + 1 + 1, j * 3, none⟩ (.int .i64 s)).setCell ⟨w.heap.size + 1 + 1 + 1, j * 3 + 1, none⟩ (.int .i64 v)).setCell ⟨w.heap.size + 1 + 1 + 1, j * 3 + 2, none⟩ (.slice a (flen kk) c)).cell? q = some u := fun {q u} hq hlt => by
    rw [World.cell?_setCell_other _ _ _ _ (by intro h'; have := congrArg Addr.block h'; simp at this; omega), World.cell?_setCell_other _ _ _ _ (by intro h'; have := congrArg Addr.block h'; simp at this; omega), World.cell?_setCell_other _ _ _ _ (by intro h'; have := congrArg Addr.block h'; simp at this; omega), hb.cell (World.block_lt_of_cell? _ _ hq)]
    exact hq
  have hfro : ∀ {q : Addr}, wr.frozen? q = false → q.block < w.heap.size + 3 → (((w2.setCell ⟨w.heap.size + 1 + 1 + 1, j * 3, none⟩ (.int .i64 s)).setCell ⟨w.heap.size + 1 + 1 + 1, j * 3 + 1, none⟩ (.int .i64 v)).setCell ⟨w.heap.size + 1 + 1 + 1, j * 3 + 2, none⟩ (.slice a (flen kk) c)).frozen? q = false := fun {q} hq hlt => by
    rw [World.frozen?_setCell, World.frozen?_setCell, World.frozen?_setCell, hb.frozen (by omega)]
    exact hq
  refine ⟨(((h.below.trans (hb.mono (by omega))).setCell (by simp; omega) _).setCell (by simp; omega) _).setCell (by simp; omega) _, by simp; omega, hcell h.t0 (by simp), hcell h.t1 (by simp), hcell h.t2 (by simp), hcell h.r0 (by simp), hcell h.r1 (by simp), hcell h.r2 (by simp), hfro h.q0 (by simp), hfro h.q1 (by simp), hfro h.q2 (by simp), ⟨_, ((hf2.set _ _).set _ _).set _ _, fun i => if i ≤ j then Ls i else w2.heap.size, by simp [hL0], fun i hi => ?_, by simp [show ¬(j + 1 ≤ j) from by omega], fun i hi => ?_⟩⟩
  · by_cases hij : i = j
    · subst hij
      dsimp only
      rw [if_pos (Nat.le_refl _), if_neg (by omega)]
      omega
    · dsimp only
      rw [if_pos (by omega), if_pos (by omega)]
      exact hL1 i (by omega)
  by_cases hij : i = j
  · subst hij
    refine ⟨x, y, s, v, kk, a, c, hd, by simp, by simp, by simp, ?_⟩
    simp only [Nat.le_refl, if_true, show ¬(i + 1 ≤ i) from by omega, if_false]
    have h0 : Ls 0 ≤ Ls i := by have := Ls_mono hL1 i 0 (by omega); rwa [Nat.zero_add] at this
    exact (hl.same (hsame (by omega))).mono (by omega) (Nat.le_refl _)
  · obtain ⟨x', y', s', v', k', a', c', e, h0, h1, h2, hsl⟩ := hall i (by omega)
    have q0 : Ls 0 ≤ Ls i := by have := Ls_mono hL1 i 0 (by omega); rwa [Nat.zero_add] at this
    have q1 : Ls (i + 1) ≤ Ls j := by have := Ls_mono hL1 (j - (i + 1)) (i + 1) (by omega); rwa [show i + 1 + (j - (i + 1)) = j from by omega] at this
    refine ⟨x', y', s', v', k', a', c', e, ?_, ?_, ?_, ?_⟩
    · rw [if_neg (by omega), if_neg (by omega), if_neg (by omega)]; exact h0
    · rw [if_neg (by omega), if_neg (by omega), if_neg (by omega)]; exact h1
    · rw [if_neg (by omega), if_neg (by omega), if_neg (by omega)]; exact h2
    · dsimp only
      rw [if_pos (show i ≤ j by omega), if_pos (show i + 1 ≤ j by omega)]
      exact (hsl.same (fun b h1 h2 => hb.block b (by omega))).same (hsame (by omega))
theorem TmAtT.sl {w wr : World} {s : Int} {k : Fo} {j : Nat} (h : TmAtT w s k j wr) (hj : flen k = j) : TX wr (w.heap.size + 3) wr.heap.size (some ⟨w.heap.size + 1 + 1 + 1, 0, none⟩) k := by
  subst hj
  have hs := h.size
  obtain ⟨f, hf, Ls, hL0, hL1, hL2, hall⟩ := h.row
  have key : ∀ i, i < flen k → ∃ x y s v kk a c, fdrop i k = .node x y (s, v) kk (fdrop (i + 1) k) ∧ wr.cell? ⟨w.heap.size + 1 + 1 + 1, 0 + i * 3, none⟩ = some (.int .i64 s) ∧ wr.cell? ⟨w.heap.size + 1 + 1 + 1, 0 + i * 3 + 1, none⟩ = some (.int .i64 v) ∧
      wr.cell? ⟨w.heap.size + 1 + 1 + 1, 0 + i * 3 + 2, none⟩ = some (.slice a (flen kk) c) ∧ TX wr (Ls i) (Ls (i + 1)) a kk := fun i hi => by
    obtain ⟨x, y, s, v, kk, a, c, e, h0, h1, h2, hs⟩ := hall i hi
    refine ⟨x, y, s, v, kk, a, c, e, ?_, ?_, ?_, hs⟩
    · rw [Nat.zero_add, ← h0]; exact hf.cell (by omega)
    · rw [Nat.zero_add, ← h1]; exact hf.cell (by omega)
    · rw [Nat.zero_add, ← h2]; exact hf.cell (by omega)
  refine ⟨.inr ⟨_, 0, rfl, row_of_all k _ 0 (by omega) (by omega) fun i hi => ?_⟩, .inr ⟨_, rfl, by omega, by omega, ?_⟩⟩
  · obtain ⟨x, y, s, v, kk, a, c, e, h0, h1, h2, hs⟩ := key i hi
    have q0 : Ls 0 ≤ Ls i := by have := Ls_mono hL1 i 0 (by omega); rwa [Nat.zero_add] at this
    have q1 : Ls (i + 1) ≤ Ls (flen k) := by have := Ls_mono hL1 (flen k - (i + 1)) (i + 1) (by omega); rwa [show i + 1 + (flen k - (i + 1)) = flen k from by omega] at this
    exact ⟨x, y, s, v, kk, a, c, e, h0, h1, h2, hs.1.mono (by omega) (by omega)⟩
  · have := tr_of_all (w := wr) k (w.heap.size + 1 + 1 + 1) 0 wr.heap.size Ls hL1 hL2 (by omega) fun i hi => by
      obtain ⟨x, y, s, v, kk, a, c, e, h0, h1, h2, hs⟩ := key i hi
      exact ⟨x, y, s, v, kk, a, c, e, ⟨_, h0⟩, ⟨_, h1⟩, hf.frozen _, hf.frozen _, h2, hs.2⟩
    rw [hL0] at this
    exact this
theorem tm_endT {w w1 : World} {s v : Int} {k : Fo} {a : Option Addr} {c : Nat} (hb : Below w.heap.size w w1) (hl : TX w1 (w.heap.size + 3) w1.heap.size a k) (x y z : Value) :
    TmPostT s v k w (.returned (.agg #[.int .i64 s, .int .i64 v, .slice a (flen k) c])) (((w1.setCell ⟨w.heap.size + 1, 0, none⟩ x).setCell ⟨w.heap.size + 1, 1, none⟩ y).setCell ⟨w.heap.size + 1, 2, none⟩ z) := by
  refine ⟨a, c, rfl, ((hb.setCell (by simp) _).setCell (by simp) _).setCell (by simp) _, ?_⟩
  have hs : Same (w.heap.size + 3) w1.heap.size w1 (((w1.setCell ⟨w.heap.size + 1, 0, none⟩ x).setCell ⟨w.heap.size + 1, 1, none⟩ y).setCell ⟨w.heap.size + 1, 2, none⟩ z) :=
    (((Same.setCell (fun _ _ _ => rfl) (.inl (by simp)) _).setCell (.inl (by simp)) _).setCell (.inl (by simp)) _)
  exact (hl.same hs).mono (by omega) (by simp)

end Go.Proofs.Ytbnbogdglffkmaa

/-! AD0: A bind put in order, plain. -/
namespace Go.Proofs.Ytbnbogdglffkmaa
open Go.RowKit Go.Deep

/-- A bind put in order. -/
def ladd : List Bd → Bd → List Bd
  | [], b => [b]
  | x :: r, b => if b.1 < x.1 then b :: x :: r else x :: ladd r b
theorem ladd_len : ∀ (bs : List Bd) (b : Bd), (ladd bs b).length = bs.length + 1
  | [], _ => rfl
  | x :: r, b => by
    simp only [ladd]
    split
    · rfl
    · simp [ladd_len r b]
end Go.Proofs.Ytbnbogdglffkmaa

/-! S1: - substOf: the binds put into a map of nodes. -/
namespace Go.Proofs.Ytbnbogdglffkmaa
open Go.RowKit Go.Deep Go.Maps

theorem law : Keyed Try.prog 60 := int_keyed (q := .i64) (by kernel_rfl)
theorem key_of {x : Int} (h : (Lit.int .i64 x).wf = true) : keyOf Try.prog 60 (.int .i64 x) = some (.int .i64 x) := keyOf_int_mk (by kernel_rfl) h

/-- What stays where cells stay. -/
theorem NRow.keep {w w' : World} {lo B : Nat} (hk : ∀ q x, w.cell? q = some x → w'.cell? q = some x) : ∀ (k : Fo) (b o : Nat), NRow w lo B k b o → NRow w' lo B k b o
  | .nil, _, _, _ => trivial
  | .node _ _ p k r, b, o, ⟨hl, h0, ⟨val, h1, h2⟩, h5⟩ => by
    refine ⟨hl, h0, ⟨val, hk _ _ h1, ?_⟩, NRow.keep hk r b (o + 1) h5⟩
    rcases h2 with h2 | ⟨e, a, c, e2, h3⟩
    · exact .inl h2
    · refine .inr ⟨e, a, c, e2, ?_⟩
      rcases h3 with h3 | ⟨b', o', e3, h3⟩
      · exact .inl h3
      · exact .inr ⟨b', o', e3, NRow.keep hk k b' o' h3⟩
theorem NodeIs.keep {w w' : World} {lo B : Nat} {val : Value} {s v : Int} {k : Fo} (hk : ∀ q x, w.cell? q = some x → w'.cell? q = some x) (h : NodeIs w lo B val s v k) : NodeIs w' lo B val s v k := by
  rcases h with h | ⟨hs, a, c, e, h⟩
  · exact .inl h
  · refine .inr ⟨hs, a, c, e, ?_⟩
    rcases h with h | ⟨b, o, e2, h⟩
    · exact .inl h
    · exact .inr ⟨b, o, e2, h.keep hk⟩
theorem Row.keep {w w' : World} {lo B : Nat} (hk : ∀ q x, w.cell? q = some x → w'.cell? q = some x) : ∀ (k : Fo) (b o : Nat), Row w lo B k b o → Row w' lo B k b o
  | .nil, _, _, _ => trivial
  | .node _ _ p k r, b, o, ⟨hl, h0, h1, h2, ⟨a, c, h3, h4⟩, h5⟩ => by
    refine ⟨hl, h0, hk _ _ h1, hk _ _ h2, ⟨a, c, hk _ _ h3, ?_⟩, Row.keep hk r b (o + 3) h5⟩
    rcases h4 with h4 | ⟨b', o', e, h4⟩
    · exact .inl h4
    · exact .inr ⟨b', o', e, Row.keep hk k b' o' h4⟩
theorem Sl.keep {w w' : World} {lo B : Nat} {a : Option Addr} {k : Fo} (hk : ∀ q x, w.cell? q = some x → w'.cell? q = some x) (h : Sl w lo B a k) : Sl w' lo B a k := by
  rcases h with h | ⟨b, o, e, h⟩
  · exact .inl h
  · exact .inr ⟨b, o, e, h.keep hk⟩
theorem BSl.keep {w w' : World} {lo B : Nat} {a : Option Addr} {bs : List Bd} (hk : ∀ q x, w.cell? q = some x → w'.cell? q = some x) (h : BSl w lo B a bs) : BSl w' lo B a bs := by
  rcases h with h | ⟨b, o, e, h1, h2, h3⟩
  · exact .inl h
  · refine .inr ⟨b, o, e, h1, h2, fun i x hx => ?_⟩
    obtain ⟨a', c', c0, c1, c2, c3, hl⟩ := h3 i x hx
    exact ⟨a', c', hk _ _ c0, hk _ _ c1, hk _ _ c2, hk _ _ c3, hl.keep hk⟩
/-- Cells stay where a map is written. -/
theorem cells_keep {w w' : World} {b : Nat} {n : Nat} {D : DataW Value} (hm : w.ownsMap Try.prog 60 rdV b n D) (hg : w.grownBy w' (some b)) : ∀ q x, w.cell? q = some x → w'.cell? q = some x := fun q x hq => by
  obtain ⟨es, clock, hb, _⟩ := hm
  refine hg.cell hq fun e => ?_
  have : q.block = b := by simpa using e
  unfold World.cell? at hq
  rw [this, hb] at hq
  cases hq

theorem MapIs.start (w : World) : MapIs (w.alloc (.map #[] 0)) w.heap.size [] :=
  ⟨0, .map [], World.ownsMap_made w Try.prog 60 rdV, Nat.zero_le _, fun x _ => ⟨fun _ => rfl, fun s v k h => by simp [sv] at h⟩⟩
theorem MapIs.below {w w' : World} {b : Nat} {bs : List Bd} (h : MapIs w b bs) (hb : Below w.heap.size w w') : MapIs w' b bs := by
  obtain ⟨n, D, hm, hn, hx⟩ := h
  have hlt := hm.lt
  refine ⟨n, D, ?_, hn, fun x hw => ⟨(hx x hw).1, fun s v k hs => ?_⟩⟩
  · obtain ⟨es, clock, h1, h2⟩ := hm
    exact ⟨es, clock, by rw [hb.block b hlt]; exact h1, h2⟩
  · obtain ⟨h1, nv, h2, h3⟩ := (hx x hw).2 s v k hs
    exact ⟨h1, nv, h2, (h3.below hb).mono (Nat.le_refl _) hb.size⟩
/-- One more bind. -/
theorem MapIs.put {w w' : World} {b n : Nat} {D : DataW Value} {bs : List Bd} {x : Int} {nv : Value} {s v : Int} {k : Fo} (hn : n ≤ 12 + bs.length) (hx : ∀ x : Int, (Lit.int .i64 x).wf = true →
    (sv bs x = none → Maps.has D (.int .i64 x) = false) ∧ ∀ s v k, sv bs x = some (s, v, k) → Maps.has D (.int .i64 x) = true ∧ ∃ nv, D.atKey (.int .i64 x) (.held .nilIface) = .held nv ∧ NodeIs w 0 w.heap.size nv s v k)
    (hm : w.ownsMap Try.prog 60 rdV b n D) (hw : w'.ownsMap Try.prog 60 rdV b (n + 1) (D.put (.int .i64 x) (.held nv))) (hg : w.grownBy w' (some b)) (hv : sv bs x = none) (hnv : NodeIs w 0 w.heap.size nv s v k) : MapIs w' b (bs ++ [(x, s, v, k)]) := by
  have hk := cells_keep hm hg
  have hD := (hm.tidy law).isMap
  refine ⟨n + 1, _, hw, by simp; omega, fun y hy => ?_⟩
  rw [sv_snoc (x := (x, s, v, k)) hv]
  by_cases e : x = y
  · subst e
    rw [if_pos rfl]
    refine ⟨fun h => (by cases h), fun s' v' k' h => ?_⟩
    simp only [Option.some.injEq, Prod.mk.injEq] at h
    obtain ⟨rfl, rfl, rfl⟩ := h
    exact ⟨has_put_same hD (by trivial) _, nv, atKey_put_same hD (by trivial) _ _, (hnv.keep hk).mono (Nat.le_refl _) hg.size⟩
  · rw [if_neg (by exact e)]
    have hne : (Lit.int .i64 y) ≠ (Lit.int .i64 x) := by intro h; simp only [Lit.int.injEq, true_and] at h; exact e h.symm
    refine ⟨fun h => ?_, fun s' v' k' h => ?_⟩
    · rw [has_put_other hne]; exact (hx y hy).1 h
    · obtain ⟨h1, nv', h2, h3⟩ := (hx y hy).2 s' v' k' h
      exact ⟨by rw [has_put_other hne]; exact h1, nv', by rw [atKey_put_other hne]; exact h2, (h3.keep hk).mono (Nat.le_refl _) hg.size⟩
end Go.Proofs.Ytbnbogdglffkmaa

/-! S2: - substOf. -/
namespace Go.Proofs.Ytbnbogdglffkmaa
open Go.RowKit Go.Deep Go.Maps

def SoPost (bs : List Bd) (room : Int) (w : World) (e : Ending) (w' : World) : Prop :=
  Below w.heap.size w w' ∧ ((sok room bs = true ∧ ∃ b, e = .returned (.tuple #[.map (some b), .bool true]) ∧ w.heap.size ≤ b ∧ MapIs w' b bs) ∨ (sok room bs = false ∧ e = .returned (.tuple #[.map none, .bool false])))

theorem drop_bd {bs : List Bd} {j : Nat} {x : Bd} (h : bs[j]? = some x) : bs.drop j = x :: bs.drop (j + 1) := by
  obtain ⟨hj, rfl⟩ := List.getElem?_eq_some_iff.1 h
  exact List.drop_eq_getElem_cons hj

end Go.Proofs.Ytbnbogdglffkmaa
