/- Regions that draw their order, walked once where all that they do leaves old memory alone. No condition. -/
import Derived.BigQuiet
import Derived.WalkKit
namespace Go.Proofs.Ythbakmdcepoikaa
open Go.RowKit

/-- A world in which all blocks below B are as in w. -/
structure After (B : Nat) (w : World) where
  world : World
  below : Below B w world

theorem After.some_world (B : Nat) (w : World) : Nonempty (After B w) := ⟨⟨w, Below.refl B w⟩⟩
attribute [instance] After.some_world

theorem After.cell {B : Nat} {w : World} (u : After B w) {a : Addr} {v : Value} (hb : a.block < B) (h : w.cell? a = some v) : u.world.cell? a = some v := by
  rw [u.below.cell hb]; exact h

theorem wp_region_after {P : Program} {id : Nat} {Q : Exit → Act → World → Prop} {a : Act} {w : World} {l : List Oper} (B : Nat) (hm : P.follows .mixedOrders = true) (hB : Region.lexB .any l.toArray = true)
    (h : wpQuiet P l.toArray (fun w' => ∃ u : After B w, w' = u.world) (fun a' => ∀ w', (∃ u : After B w, w' = u.world) → Q .normal a' w') l a) : (Code.region id l.toArray true).wp P Q a w :=
  wp_region_quiet (C := fun w' => ∃ u : After B w, w' = u.world) hm hB ⟨⟨{ w with drawn := w.drawn + 1 }, (Below.refl B w).drew⟩, rfl⟩ (by simpa using h)

theorem Calls.after {P : Program} {f : FuncId} {args : Array Value} {B : Nat} {w : World} {u : After B w} {v : Value} (hB : B ≤ u.world.heap.size)
    (h : Calls P f args u.world fun e w' => e = .returned v ∧ Below u.world.heap.size u.world w') : Calls P f args u.world fun e w' => e = .returned v ∧ ∃ u' : After B w, w' = u'.world :=
  h.mono fun _ w' ⟨he, hb⟩ => ⟨he, ⟨w', u.below.trans (hb.mono hB)⟩, rfl⟩

theorem Calls.after_same {P : Program} {f : FuncId} {args : Array Value} {B : Nat} {w : World} {u : After B w} {v : Value}
    (h : Calls P f args u.world fun e w' => e = .returned v ∧ u.world = w') : Calls P f args u.world fun e w' => e = .returned v ∧ ∃ u' : After B w, w' = u'.world :=
  h.mono fun _ _ ⟨he, hb⟩ => ⟨he, u, hb.symm⟩

end Go.Proofs.Ythbakmdcepoikaa
