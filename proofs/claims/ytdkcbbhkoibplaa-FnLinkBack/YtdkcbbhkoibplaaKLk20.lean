/- Several texts in one: S8, SOk, SC. -/
import Derived.Test.YtdkcbbhkoibplaaKLk10
import Derived.Test.YtdkcbbhkoibplaaKLk11
import Derived.Test.YtdkcbbhkoibplaaKLk4
import Derived.Test.YtdkcbbhkoibplaaKLk14
import Derived.Test.YtdkcbbhkoibplaaKLk7
import Derived.Test.YtdkcbbhkoibplaaKLk8

/-! SC: Worlds in which some cells are known; plain lemmas. -/
namespace Go.Proofs.Ytdkcbbhkoibplaa
open Go.RowKit Go.Deep

/-- A world in which the cells of l hold what l says. -/
structure SeenD (l : List (Addr × Value)) where
  world : World
  at_ : ∀ p, p ∈ l → world.cell? p.1 = some p.2
theorem seenD_drew {l : List (Addr × Value)} {w : World} (h : ∀ p, p ∈ l → w.cell? p.1 = some p.2) : ∃ u : SeenD l, w.drew = u.world := ⟨⟨w.drew, h⟩, rfl⟩
theorem storeD {w : World} {l : List (Addr × Value)} (h : ∀ p, p ∈ l → w.cell? p.1 = some p.2) {n : Nat} (hn : ∀ p, p ∈ l → p.1.block ≠ n) (x y z : Value) : ∀ p, p ∈ l → (((w.setCell ⟨n, 0, none⟩ x).setCell ⟨n, 1, none⟩ y).setCell ⟨n, 2, none⟩ z).cell? p.1 = some p.2 :=
  seen_set (seen_set (seen_set h hn _ _) hn _ _) hn _ _
end Go.Proofs.Ytdkcbbhkoibplaa
