/- The variables of a term: as they come; sorted, each once. Plain lemmas. -/
import Derived.Test.YtebalmemncldlabP5a
import Derived.Lib.SlicesCompact
namespace Go.Proofs.Ytebalmemncldlab
open Go.RowKit Go.Deep

/-- The variables of terms, as they come. -/
def fvl : Fo → List Int
  | .nil => []
  | .node _ _ p k r => (if p.1 = 0 then [p.2] else fvl k) ++ fvl r
/-- The variables of a term, as they come. -/
def fvs (s v : Int) (k : Fo) : List Int := if s = 0 then [v] else fvl k

theorem fvl_sz : ∀ k : Fo, (fvl k).length ≤ fsz k
  | .nil => Nat.le_refl _
  | .node _ _ p k r => by
    have h1 := fvl_sz k
    have h2 := fvl_sz r
    simp only [fvl, fsz, List.length_append]
    split
    · simp; omega
    · omega
/-- What stands ahead of the j-th has no more variables than room. -/
theorem fvl_ge : ∀ (j : Nat) (k : Fo), (fvl k).length + fsz (fdrop j k) ≤ fsz k + (fvl (fdrop j k)).length
  | 0, k => by simp [fdrop]; omega
  | _ + 1, .nil => by simp only [fdrop]; omega
  | n + 1, .node _ _ p kk r => by
    have h := fvl_ge n r
    have h1 := fvl_sz kk
    simp only [fdrop, fvl, fsz, List.length_append]
    split
    · simp; omega
    · omega
theorem fvs_sz (s v : Int) (k : Fo) : (fvs s v k).length ≤ 1 + fsz k := by
  have := fvl_sz k
  unfold fvs
  split
  · simp
  · omega
theorem fvl_in : ∀ (k : Fo), fok k = true → ∀ x ∈ fvl k, 0 ≤ x ∧ x ≤ 11
  | .nil, _, x, hx => by simp [fvl] at hx
  | .node _ _ p k r, h, x, hx => by
    simp only [fok, Bool.and_eq_true] at h
    simp only [fvl, List.mem_append] at hx
    rcases hx with hx | hx
    · split at hx
      · rename_i hp
        simp only [List.mem_singleton] at hx
        subst hx
        exact ((okN_iff _ _ _).1 h.1.1).2.1 hp
      · exact fvl_in k h.1.2 x hx
    · exact fvl_in r h.2 x hx
theorem fvs_in {s v : Int} {k : Fo} (h : okW s v k 16 = true) : ∀ x ∈ fvs s v k, 0 ≤ x ∧ x ≤ 11 := by
  have h' := (okW_iff _ _ _ _).1 h
  intro x hx
  unfold fvs at hx
  split at hx
  · rename_i hs
    simp only [List.mem_singleton] at hx
    subst hx
    exact ((okN_iff _ _ _).1 h'.1).2.1 hs
  · exact fvl_in k h'.2.1 x hx

theorem strict_ext : ∀ (l1 l2 : List Int), l1.Pairwise (· < ·) → l2.Pairwise (· < ·) → (∀ x, x ∈ l1 ↔ x ∈ l2) → l1 = l2
  | [], [], _, _, _ => rfl
  | [], b :: _, _, _, h => by have := (h b).2 (by simp); simp at this
  | a :: _, [], _, _, h => by have := (h a).1 (by simp); simp at this
  | a :: l1, b :: l2, h1, h2, h => by
    rw [List.pairwise_cons] at h1 h2
    have e : a = b := by
      rcases List.mem_cons.1 ((h a).1 (by simp)) with e | e
      · exact e
      · rcases List.mem_cons.1 ((h b).2 (by simp)) with e' | e'
        · exact e'.symm
        · have := h1.1 b e'; have := h2.1 a e; omega
    subst e
    rw [strict_ext l1 l2 h1.2 h2.2 fun x => ?_]
    constructor
    · intro hx
      rcases List.mem_cons.1 ((h x).1 (by simp [hx])) with e | e
      · have := h1.1 x hx; omega
      · exact e
    · intro hx
      rcases List.mem_cons.1 ((h x).2 (by simp [hx])) with e | e
      · have := h2.1 x hx; omega
      · exact e

/-- Of a sorted row each once, in order, and none is lost. -/
theorem compact_sorted (ys : List Int) (hs : ys.Pairwise (· ≤ ·)) : ∀ m, m ≤ ys.length →
    (Lib.compactUpTo ys.toArray m).Pairwise (· < ·) ∧ (∀ x, x ∈ Lib.compactUpTo ys.toArray m ↔ ∃ j, j < m ∧ ys[j]? = some x) := by
  have hget : ∀ j, j < ys.length → ys[j]? = some (ys.toArray[j]!) := fun j hj => by simp [hj]
  have hle : ∀ i j, i ≤ j → j < ys.length → ys.toArray[i]! ≤ ys.toArray[j]! := fun i j hij hj => by
    rcases Nat.lt_or_ge i j with h | h
    · have := List.pairwise_iff_getElem.1 hs i j (by omega) hj h
      simpa [hj, show i < ys.length by omega] using this
    · have : i = j := by omega
      subst this
      exact Int.le_refl _
  intro m
  induction m with
  | zero => intro _; exact ⟨by simp [Lib.compactUpTo], fun x => by simp [Lib.compactUpTo]⟩
  | succ m ih =>
    intro hm
    obtain ⟨h1, h2⟩ := ih (by omega)
    rw [Lib.compactUpTo_succ]
    by_cases hk : Lib.keeps ys.toArray m = true
    · rw [if_pos hk]
      refine ⟨List.pairwise_append.2 ⟨h1, List.pairwise_singleton _ _, fun a ha b hb => ?_⟩, fun x => ?_⟩
      · simp only [List.mem_singleton] at hb
        subst hb
        obtain ⟨j, hj, hja⟩ := (h2 a).1 ha
        rw [hget j (by omega)] at hja
        have hja' := Option.some.inj hja
        have hne : ys.toArray[m]! ≠ ys.toArray[m - 1]! := by
          simp only [Lib.keeps, decide_eq_true_eq] at hk
          rcases hk with hk | hk
          · omega
          · exact hk
        have a1 := hle j (m - 1) (by omega) (by omega)
        have a2 := hle (m - 1) m (by omega) (by omega)
        rw [← hja']
        omega
      · simp only [List.mem_append, List.mem_singleton]
        constructor
        · rintro (hx | rfl)
          · obtain ⟨j, hj, e⟩ := (h2 x).1 hx
            exact ⟨j, by omega, e⟩
          · exact ⟨m, by omega, hget m (by omega)⟩
        · rintro ⟨j, hj, e⟩
          by_cases hjm : j < m
          · exact .inl ((h2 x).2 ⟨j, hjm, e⟩)
          · have : j = m := by omega
            subst this
            rw [hget j (by omega)] at e
            exact .inr (Option.some.inj e).symm
    · rw [if_neg hk, List.append_nil]
      refine ⟨h1, fun x => ⟨fun hx => ?_, fun hx => ?_⟩⟩
      · obtain ⟨j, hj, e⟩ := (h2 x).1 hx
        exact ⟨j, by omega, e⟩
      · obtain ⟨j, hj, e⟩ := hx
        by_cases hjm : j < m
        · exact (h2 x).2 ⟨j, hjm, e⟩
        · have : j = m := by omega
          subst this
          have hk' : ¬(j = 0 ∨ ys.toArray[j]! ≠ ys.toArray[j - 1]!) := by simpa [Lib.keeps] using hk
          have h0 : j ≠ 0 := fun h => hk' (.inl h)
          have heq : ys.toArray[j]! = ys.toArray[j - 1]! := Classical.byContradiction fun h => hk' (.inr h)
          rw [hget j (by omega), heq, ← hget (j - 1) (by omega)] at e
          exact (h2 x).2 ⟨j - 1, by omega, e⟩

/-- The numbers from 0 to 11 that are in a list. -/
def among (xs : List Int) (n : Nat) : List Int := ((List.range n).map (fun (i : Nat) => (i : Int))).filter (fun x => decide (x ∈ xs))
theorem among_mem (xs : List Int) (n : Nat) (x : Int) : x ∈ among xs n ↔ x ∈ xs ∧ 0 ≤ x ∧ x < n := by
  simp only [among, List.mem_filter, List.mem_map, List.mem_range, decide_eq_true_eq]
  constructor
  · rintro ⟨⟨i, hi, rfl⟩, h⟩
    exact ⟨h, by omega, by omega⟩
  · rintro ⟨h, h0, h1⟩
    exact ⟨⟨x.toNat, by omega, by omega⟩, h⟩
theorem among_strict (xs : List Int) (n : Nat) : (among xs n).Pairwise (· < ·) := by
  refine List.Pairwise.filter _ ?_
  rw [List.pairwise_map]
  refine List.Pairwise.imp ?_ List.pairwise_lt_range
  intro a b h
  omega
theorem among_succ (xs : List Int) (n : Nat) : among xs (n + 1) = among xs n ++ (if (n : Int) ∈ xs then [(n : Int)] else []) := by
  simp only [among, List.range_succ, List.map_append, List.filter_append, List.map_cons, List.map_nil]
  congr 1
  by_cases h : (n : Int) ∈ xs <;> simp [h]
theorem compact_among (xs : List Int) (h : ∀ x ∈ xs, 0 ≤ x ∧ x ≤ 11) : Lib.compact (xs.mergeSort fun x y => decide (x ≤ y)) = among xs 12 := by
  have hs : (xs.mergeSort fun x y => decide (x ≤ y)).Pairwise (· ≤ ·) := by
    have := List.pairwise_mergeSort (le := fun (x y : Int) => decide (x ≤ y)) (fun a b c h1 h2 => by simp only [decide_eq_true_eq] at *; omega) (fun a b => by simp only [Bool.or_eq_true, decide_eq_true_eq]; omega) xs
    exact this.imp (fun h => by simpa using h)
  obtain ⟨h1, h2⟩ := compact_sorted _ hs _ (Nat.le_refl _)
  refine strict_ext _ _ h1 (among_strict xs 12) fun x => ?_
  rw [among_mem]
  have h3 : x ∈ Lib.compact (xs.mergeSort fun x y => decide (x ≤ y)) ↔ x ∈ xs := by
    rw [Lib.compact, h2 x, ← List.mem_mergeSort (le := fun (x y : Int) => decide (x ≤ y)) (l := xs)]
    constructor
    · rintro ⟨j, _, e⟩
      exact List.mem_of_getElem? e
    · intro hx
      obtain ⟨j, hj, e⟩ := List.getElem_of_mem hx
      exact ⟨j, hj, by rw [List.getElem?_eq_getElem hj, e]⟩
  rw [h3]
  constructor
  · intro hx
    have := h x hx
    exact ⟨hx, by omega, by omega⟩
  · exact fun hx => hx.1
end Go.Proofs.Ytebalmemncldlab
