/- Rows of rows of the call's own, each row in blocks of its own. Definitions and plain lemmas. -/
import Derived.Test.YthbakmdcepoikaaP3
import Derived.Test.YthbakmdcepoikaaIS
namespace Go.Proofs.Ythbakmdcepoikaa
open Go.RowKit Go.Deep

/-- A row of numbers of one's own, in blocks from L on below H. -/
structure RwF (w : World) (L H : Nat) (a : Option Addr) (c : Nat) (r : List Int) : Prop where
  own : IOwn w L r a c
  hi : ∀ g, (Value.slice a r.length c).ownBlock = some g → g < H
theorem RwF.same {w w2 : World} {L H : Nat} {a : Option Addr} {c : Nat} {r : List Int} (h : RwF w L H a c r) (hs : ∀ b, L ≤ b → b < H → w2.heap[b]? = w.heap[b]?) : RwF w2 L H a c r := by
  refine ⟨⟨h.own.1, ?_⟩, h.hi⟩
  rcases h.own.2 with h2 | ⟨g, cap, cur, h3, h4, h5, h6⟩
  · exact .inl h2
  · have hg : g < H := h.hi g (by rw [h3]; rfl)
    exact .inr ⟨g, cap, cur, h3, h4, by rw [hs g h4 hg]; exact h5, h6⟩
theorem RwF.sc {w : World} {L H : Nat} {a : Option Addr} {c : Nat} {r : List Int} (h : RwF w L H a c r) : ISc w L H a c r := by
  refine ⟨?_, (isc_of_own h.own).2⟩
  rcases Nat.eq_zero_or_pos r.length with h0 | h0
  · exact .inl (List.eq_nil_of_length_eq_zero h0)
  · obtain ⟨g, cap, hv, hb, hlt⟩ := h.own.form h0
    have hg : g < H := h.hi g (by rw [hv]; rfl)
    rcases h.own.sl with h1 | ⟨b, o, e, h1, h2, h3⟩
    · exact .inl h1
    · simp only [Value.slice.injEq] at hv
      rw [hv.1] at e
      simp only [Option.some.injEq, Addr.mk.injEq] at e
      refine .inr ⟨b, o, by rw [hv.1]; simp [e.1, e.2.1], h1, by omega, h3⟩

/-- The rows lie in row (A, C), row i from block lo i on below hi i, one behind the other. -/
structure RF (w : World) (base : Nat) (rows : List (List Int)) (A : Option Addr) (C : Nat) (xs : List Value) (lo hi : Nat → Nat) : Prop where
  own : w.ownsRow base 53 1 (.slice A rows.length C) rows.length xs
  up : ∀ i j, i < j → j < rows.length → hi i ≤ lo j
  at_ : ∀ (i : Nat) (r : List Int), rows[i]? = some r → ∃ a' c', xs[i]? = some (Value.slice a' r.length c') ∧ RwF w (lo i) (hi i) a' c' r ∧ base ≤ lo i ∧ hi i ≤ w.heap.size ∧ (∀ g, (Value.slice A rows.length C).ownBlock = some g → g < lo i ∨ hi i ≤ g)
def ROwnF (w : World) (base : Nat) (rows : List (List Int)) (A : Option Addr) (C : Nat) : Prop := ∃ xs lo hi, RF w base rows A C xs lo hi
theorem RF.all {w : World} {base : Nat} {rows : List (List Int)} {A : Option Addr} {C : Nat} {xs : List Value} {lo hi : Nat → Nat} (h : RF w base rows A C xs lo hi) :
    ∀ (i : Nat) (r : List Int), rows[i]? = some r → ∃ a' c' L H, xs[i]? = some (Value.slice a' r.length c') ∧ ISc w L H a' c' r ∧ base ≤ L ∧ H ≤ w.heap.size ∧ (∀ g, (Value.slice A rows.length C).ownBlock = some g → g < L ∨ H ≤ g) := fun i r hr => by
  obtain ⟨a', c', hx, hw, h1, h2, h3⟩ := h.at_ i r hr
  exact ⟨a', c', lo i, hi i, hx, hw.sc, h1, h2, h3⟩
theorem ROwnF.to {w : World} {base : Nat} {rows : List (List Int)} {A : Option Addr} {C : Nat} (h : ROwnF w base rows A C) : ROwn w base rows A C := by
  obtain ⟨xs, lo, hi, h⟩ := h
  exact ⟨xs, h.own, h.all⟩
theorem RF.low {w w2 : World} {base base' : Nat} {rows : List (List Int)} {A : Option Addr} {C : Nat} {xs : List Value} {lo hi : Nat → Nat} (h : RF w base rows A C xs lo hi) (hb : Below w.heap.size w w2) (hbase : base' ≤ base) : RF w2 base' rows A C xs lo hi := by
  refine ⟨own_base hbase (own_low hb h.own), h.up, fun i r hr => ?_⟩
  obtain ⟨a', c', hx, hw, h1, h2, h3⟩ := h.at_ i r hr
  exact ⟨a', c', hx, hw.same (fun b _ hb' => hb.block b (by omega)), by omega, Nat.le_trans h2 hb.size, h3⟩
theorem ROwnF.low {w w2 : World} {base base' : Nat} {rows : List (List Int)} {A : Option Addr} {C : Nat} (h : ROwnF w base rows A C) (hb : Below w.heap.size w w2) (hbase : base' ≤ base) : ROwnF w2 base' rows A C := by
  obtain ⟨xs, lo, hi, h⟩ := h
  exact ⟨xs, lo, hi, h.low hb hbase⟩
/-- One more row is appended. -/
theorem RF.append {w w2 w3 : World} {base : Nat} {rows : List (List Int)} {A A' : Option Addr} {C C' : Nat} {blk : Obj} {r : List Int} {a2 : Option Addr} {c2 : Nat} {xs : List Value} {lo hi : Nat → Nat} (h : RF w base rows A C xs lo hi)
    (hown3 : w3.ownsRow base 53 1 (.slice A' (rows.length + 1) C') (rows.length + 1) (xs ++ [.slice a2 r.length c2])) (hb2 : Below w.heap.size w w2) (hi2 : IOwn w2 w.heap.size r a2 c2) (hbase : base ≤ w.heap.size)
    (hgrow : (w2.alloc blk).grownBy w3 (Value.slice A rows.length C).ownBlock) (hat : (Value.slice A' (rows.length + 1) C').ownBlock = (Value.slice A rows.length C).ownBlock ∨ (Value.slice A' (rows.length + 1) C').ownBlock = some (w2.heap.size + 1)) : ROwnF w3 base (rows ++ [r]) A' C' := by
  have hs2 := hb2.size
  have hs3 := hgrow.size
  simp at hs3
  have hxl : xs.length = rows.length := by have := h.own.1; omega
  have hl : (rows ++ [r]).length = rows.length + 1 := by simp
  refine ⟨xs ++ [.slice a2 r.length c2], fun i => if i < rows.length then lo i else w.heap.size, fun i => if i < rows.length then hi i else w2.heap.size, by rw [hl]; exact hown3, fun i j hij hj => ?_, fun i r' hr => ?_⟩
  · rw [hl] at hj
    rw [if_pos (by omega)]
    split
    · exact h.up i j hij (by omega)
    · obtain ⟨a', c', _, _, _, h2, _⟩ := h.at_ i rows[i] (List.getElem?_eq_getElem (by omega))
      exact h2
  have hcond : ∀ {L H : Nat}, (∀ g, (Value.slice A rows.length C).ownBlock = some g → g < L ∨ H ≤ g) → H ≤ w2.heap.size → ∀ g', (Value.slice A' (rows.length + 1) C').ownBlock = some g' → g' < L ∨ H ≤ g' := fun hg hH g' hg' => by
    rcases hat with h1 | h1
    · exact hg g' (by rw [← h1]; exact hg')
    · rw [h1] at hg'; simp at hg'; omega
  by_cases hi' : i < rows.length
  · rw [List.getElem?_append_left hi'] at hr
    obtain ⟨a', c', hx, hsl, hL, hH, hg⟩ := h.at_ i r' hr
    simp only [if_pos hi']
    refine ⟨a', c', by rw [List.getElem?_append_left (by omega)]; exact hx, hsl.same (fun b h1 h2 => ?_), hL, by omega, by rw [hl]; exact hcond hg (by omega)⟩
    rw [hgrow.block b (by simp; omega) (fun e => by have := hg b e.symm; omega), Below.heap_alloc _ _ _ (by omega), hb2.block b (by omega)]
  · have hir : i = rows.length := by
      have := (List.getElem?_eq_some_iff.1 hr).1
      simp at this
      omega
    subst hir
    simp at hr
    subst hr
    simp only [if_neg hi']
    refine ⟨a2, c2, by rw [← hxl]; simp, RwF.same ⟨hi2, fun g hg => (hi2.lt g hg).2⟩ (fun b h1 h2 => ?_), hbase, by omega, by rw [hl]; exact hcond (fun g hg => .inl (h.own.lt _ hg).2) (Nat.le_refl _)⟩
    rw [hgrow.block b (by simp; omega) (fun e => by have := (h.own.lt b e.symm).2; omega), Below.heap_alloc _ _ _ (by omega)]

/-- The first row: the root's own. -/
theorem rownF_start {w w3 : World} (hb : Below ((w.alloc (.cells #[] 3)).alloc (.cells #[.slice (some ⟨w.heap.size, 0, none⟩) 0 0] 53)).heap.size ((w.alloc (.cells #[] 3)).alloc (.cells #[.slice (some ⟨w.heap.size, 0, none⟩) 0 0] 53)) w3) :
    ROwnF w3 w.heap.size [[]] (some ⟨w.heap.size + 1, 0, none⟩) 1 := by
  refine ROwnF.low (w := (w.alloc (.cells #[] 3)).alloc (.cells #[.slice (some ⟨w.heap.size, 0, none⟩) 0 0] 53)) ⟨[.slice (some ⟨w.heap.size, 0, none⟩) 0 0], fun _ => w.heap.size, fun _ => w.heap.size + 1, ⟨rfl, .inr ⟨w.heap.size + 1, 1, #[.slice (some ⟨w.heap.size, 0, none⟩) 0 0], rfl, by omega, ?_, Nat.le_refl _, by decide, rfl, rfl⟩⟩, fun i j h1 h2 => ?_, fun i r hr => ?_⟩ hb (Nat.le_refl _)
  · have := heap_alloc_new (w.alloc (.cells #[] 3)) (.cells #[.slice (some ⟨w.heap.size, 0, none⟩) 0 0] 53)
    simpa using this
  · simp at h2; omega
  · have hi : i = 0 := by
      have := (List.getElem?_eq_some_iff.1 hr).1
      simp at this
      exact this
    subst hi
    simp at hr
    subst hr
    refine ⟨_, 0, rfl, ⟨⟨rfl, .inr ⟨w.heap.size, 0, #[], rfl, Nat.le_refl _, ?_, Nat.le_refl _, by decide, rfl, rfl⟩⟩, fun g hg => by simp [Value.ownBlock] at hg; omega⟩, Nat.le_refl _, by simp, fun g hg => .inr (by simp [Value.ownBlock] at hg; omega)⟩
    rw [Below.heap_alloc _ _ _ (by simp)]
    exact heap_alloc_new _ _
end Go.Proofs.Ythbakmdcepoikaa
