/- What TermPlaces answers. -/
import Derived.Test.YthbakmdcepoikaaP4
import Derived.Test.YthbakmdcepoikaaWD
namespace Go.Proofs.Ythbakmdcepoikaa
open Go.RowKit Go.Deep

theorem isl_nil {w : World} {lo B : Nat} {a : Option Addr} : ISl w lo B a [] := Or.inl rfl

def TpPost (s v : Int) (k : Fo) (w : World) (e : Ending) (w' : World) : Prop :=
  ∃ A C rows, e = .returned (.slice A rows.length C) ∧ rows = (if okW s v k 16 = true then places k else []) ∧ Below w.heap.size w w' ∧ RSl w' w.heap.size w'.heap.size A rows
end Go.Proofs.Ythbakmdcepoikaa
