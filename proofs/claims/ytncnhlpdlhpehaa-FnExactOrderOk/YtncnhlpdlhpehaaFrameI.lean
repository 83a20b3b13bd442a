/- A slice of numbers that came in, as the walks take it. -/
import Derived.Test.YtncnhlpdlhpehaaP1
import Derived.Test.YtncnhlpdlhpehaaFrameO
import Derived.WalkKit
import Derived.ProofKit
import Derived.OpenShut
namespace Go.Proofs.Ytncnhlpdlhpehaa
open Go.ChangeShapes Go.WideShapes Go.ChangeAt Go.RowKit

/-- Out of the reading of an argument. -/
theorem ints_of_trod {H : Type} {enc : TypeId × Value → H} {W : World} {a : Option Addr} {len cap : Nat} {d : DataW H} {p : List MemPlace} (h : DataW.Trod enc Try.prog W 0 (fun _ => true) true 22 (.slice a len cap) d p) : ∃ xs : List Int, len = xs.length ∧ ISl W 0 W.heap.size a xs ∧ xs.length ≤ maxLen := by
  obtain ⟨fuel, hf⟩ := h
  rcases open_ints Try.underlying22 Try.underlying3 (by kernel_rfl) hf with ⟨hcs, _⟩ | ⟨x, l, c, zs, hcs, _, hl, hm, hz, _, hcell, _⟩
  · simp [Value.cells] at hcs
    obtain ⟨rfl, rfl, rfl⟩ := hcs
    exact ⟨[], rfl, .inl rfl, Nat.zero_le _⟩
  · simp [Value.cells] at hcs
    obtain ⟨rfl, rfl, rfl⟩ := hcs
    have hz' : zs.length = cap := by simpa using hz
    have hl' : (zs.take len).length = len := by rw [List.length_take]; omega
    refine ⟨zs.take len, hl'.symm, ?_, by rw [hl']; omega⟩
    by_cases h0 : len = 0
    · subst h0; exact .inl (by simp)
    · obtain ⟨b, o, spot⟩ := x
      have c0 := hcell 0 (by omega)
      have hs : spot = none := by simpa [Addr.add] using World.cell?_spot c0
      subst hs
      have ha : ∀ n, (⟨b, o, none⟩ : Addr).add n = ⟨b, o + n, none⟩ := fun n => by unfold Addr.add; split <;> simp_all
      rw [ha] at c0
      refine .inr ⟨b, o, rfl, Nat.zero_le _, World.block_lt_of_cell? _ _ c0, fun i x hx => ?_⟩
      rw [List.getElem?_take] at hx
      split at hx
      · have ci := hcell i (by omega)
        rw [ha] at ci
        rw [ci, List.getD_eq_getElem?_getD, hx]
        rfl
      · cases hx
end Go.Proofs.Ytncnhlpdlhpehaa
