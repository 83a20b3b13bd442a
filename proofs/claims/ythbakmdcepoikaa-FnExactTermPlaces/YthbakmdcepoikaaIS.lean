/- Rows of numbers: what a place of one holds, one of the call's own. -/
import Derived.Test.YthbakmdcepoikaaP2
namespace Go.Proofs.Ythbakmdcepoikaa
open Go.RowKit Go.Deep

theorem isl_at {w : World} {lo B : Nat} {a : Option Addr} {xs : List Int} {i : Nat} (h : ISl w lo B a xs) (hi : i < xs.length) :
    ∃ b o, a = some ⟨b, o, none⟩ ∧ lo ≤ b ∧ b < B ∧ w.cell? ⟨b, o + i, none⟩ = some (.int .i64 xs[i]) := by
  rcases h with rfl | ⟨b, o, e, h1, h2, h3⟩
  · simp at hi
  · exact ⟨b, o, e, h1, h2, h3 i _ (List.getElem?_eq_getElem hi)⟩

def IOwn (w : World) (base : Nat) (xs : List Int) (A : Option Addr) (C : Nat) : Prop := w.ownsRow base 3 1 (.slice A xs.length C) xs.length (xs.map (Value.int .i64))

theorem IOwn.base {w : World} {base base' : Nat} {xs : List Int} {A : Option Addr} {C : Nat} (h : IOwn w base xs A C) (hb : base' ≤ base) : IOwn w base' xs A C := own_base hb h
theorem IOwn.sl {w : World} {base : Nat} {xs : List Int} {A : Option Addr} {C : Nat} (h : IOwn w base xs A C) : ISl w base w.heap.size A xs := isl_of_own h
theorem IOwn.low {w w2 : World} {base : Nat} {xs : List Int} {A : Option Addr} {C : Nat} (h : IOwn w base xs A C) (hb : Below w.heap.size w w2) : IOwn w2 base xs A C := own_low hb h
end Go.Proofs.Ythbakmdcepoikaa
