/-
  NARROWER THAN 'FOR EVERY INPUT', by the rows' own cells (each row's printed sentence says how): FnExactTermText: loops · FnExactTermPlaces: loops.
  DERIVED. THE GIVEN ROWS OF THIS SEAT. 3 by the template 'for every input the law returns true; each argument reads behind the call as it read before'; 0 by the template 'total and deterministic' (their statements: YthbakmdcepoikaaTotals.lean).
  GIVEN WITH THE SEED: the statements are not yours to turn. If you find one false, say at which input.
  Laid BY PROGRAM, IN A SANDBOX (cutbox-rows.mjs): the forced cells as the released guide's own fill.sh prints them over the translation c631ebef3d6082eb… (all of the seat's roots in one cut). By AI agents, Wed Nov 11 2026. No macro, syntax, notation, axiom, sorry.
-/
import Derived.Test.YthbakmdcepoikaaChecked
import GoSem.Claim
import GoSem.ClaimJoined
import GoSem.ClaimMapViews
import Derived.JoinedTies
import Derived.KernelRfl
namespace Go.Proofs.Ythbakmdcepoikaa
/- THE CELL 'sum', in the pinned program and in every row, IS THE sha256 OF THE DUMP (.gsa) THAT YthbakmdcepoikaaProg.lean LOADS. Nothing in Lean hashes anything: it is a label: what it is worth is what the hold of that sum in a sandbox is worth. -/
noncomputable def Try.pinned : Pinned := { name := "ythbakmdcepoikaa", sum := "c631ebef3d6082eb23a619e4c9dd79ca9753005a189eef5c8d6d8a692f93611f", checked := Try.checked }
namespace Rows
def none {H : Type} : Left H := { results := [], args := [] }

/-- 'laws.FnTermOne': WHATEVER THE INPUT: true; the input reads as it did. -/
def fnTermOneSpec : ChangeSpec := { name := "fnTermOne", fn := fun _ => fun
  | [d1, d2] => { results := [.lit (.bool true)], args := [d1, d2] }
  | _ => none }
def fnTermOneRow : OpenClaim := { program := "ythbakmdcepoikaa", sum := "c631ebef3d6082eb23a619e4c9dd79ca9753005a189eef5c8d6d8a692f93611f", func := "loop.example/tipstaff/laws.FnTermOne", spec := "fnTermOne", unfollowed := true, recurses := true, apart := false }
def FnTermOneSaid : Prop := fnTermOneRow.holds Try.pinned (OpenSpec.ofChange fnTermOneSpec)

/-- ITS FALSE NEIGHBOUR: 'it returns false'. Refute it at one input. -/
def fnTermOneWrong : ChangeSpec := { name := "fnTermOne", fn := fun _ => fun
  | [d1, d2] => { results := [.lit (.bool false)], args := [d1, d2] }
  | _ => none }
def FnTermOneWrongFalsely : Prop := fnTermOneRow.holds Try.pinned (OpenSpec.ofChange fnTermOneWrong)

/-- 'laws.FnExactTermText': WHATEVER THE INPUT: true; the input reads as it did. -/
def fnExactTermTextSpec : ChangeSpec := { name := "fnExactTermText", fn := fun _ => fun
  | [d] => { results := [.lit (.bool true)], args := [d] }
  | _ => none }
def fnExactTermTextRow : OpenClaim := { program := "ythbakmdcepoikaa", sum := "c631ebef3d6082eb23a619e4c9dd79ca9753005a189eef5c8d6d8a692f93611f", func := "loop.example/tipstaff/laws.FnExactTermText", spec := "fnExactTermText", unfollowed := true, recurses := true, loops := true, apart := false }
def FnExactTermTextSaid : Prop := fnExactTermTextRow.holds Try.pinned (OpenSpec.ofChange fnExactTermTextSpec)

/-- ITS FALSE NEIGHBOUR: 'it returns false'. Refute it at one input. -/
def fnExactTermTextWrong : ChangeSpec := { name := "fnExactTermText", fn := fun _ => fun
  | [d] => { results := [.lit (.bool false)], args := [d] }
  | _ => none }
def FnExactTermTextWrongFalsely : Prop := fnExactTermTextRow.holds Try.pinned (OpenSpec.ofChange fnExactTermTextWrong)

/-- 'laws.FnExactTermPlaces': WHATEVER THE INPUT: true; the input reads as it did. -/
def fnExactTermPlacesSpec : ChangeSpec := { name := "fnExactTermPlaces", fn := fun _ => fun
  | [d] => { results := [.lit (.bool true)], args := [d] }
  | _ => none }
def fnExactTermPlacesRow : OpenClaim := { program := "ythbakmdcepoikaa", sum := "c631ebef3d6082eb23a619e4c9dd79ca9753005a189eef5c8d6d8a692f93611f", func := "loop.example/tipstaff/laws.FnExactTermPlaces", spec := "fnExactTermPlaces", recurses := true, loops := true, apart := false }
def FnExactTermPlacesSaid : Prop := fnExactTermPlacesRow.holds Try.pinned (OpenSpec.ofChange fnExactTermPlacesSpec)

/-- ITS FALSE NEIGHBOUR: 'it returns false'. Refute it at one input. -/
def fnExactTermPlacesWrong : ChangeSpec := { name := "fnExactTermPlaces", fn := fun _ => fun
  | [d] => { results := [.lit (.bool false)], args := [d] }
  | _ => none }
def FnExactTermPlacesWrongFalsely : Prop := fnExactTermPlacesRow.holds Try.pinned (OpenSpec.ofChange fnExactTermPlacesWrong)

/- THE SECOND FORM. 'bulk': how many values and letters a reading holds, each counted each time it is reached (what is shared counts as often as it is met; a slice's spare places count too). A statement '..UptoSaid' is the law's where the arguments, and the package variables that the reading takes, are together of bulk at most 1048576: NARROWER than '..Said'. Prove '..Said' where nothing that the law and all that it calls make is longer than what came in: it says more and counts as full. Else prove '..UptoSaid'. A law counts once. -/
mutual
def uptoBulk {H : Type} : DataW H → Nat
  | .lit (.string bytes) => bytes.length + 1
  | .lit _ => 1
  | .nil => 1
  | .ptr d => uptoBulk d + 1
  | .slice elems spare => uptoBulkAll elems + uptoBulkAll spare + 1
  | .agg parts => uptoBulkAll parts + 1
  | .iface _ d => uptoBulk d + 1
  | .map entries => uptoBulkEntries entries + 1
  | .held _ => 1
def uptoBulkAll {H : Type} : List (DataW H) → Nat
  | [] => 0
  | d :: r => uptoBulk d + uptoBulkAll r
def uptoBulkEntries {H : Type} : List (Lit × DataW H) → Nat
  | [] => 0
  | x :: r => uptoBulkEntry x + uptoBulkEntries r
def uptoBulkEntry {H : Type} : Lit × DataW H → Nat
  | (.string bytes, d) => bytes.length + uptoBulk d + 1
  | (_, d) => uptoBulk d + 1
 end
def uptoSmall : (H : Type) → List (DataW H) → Bool := fun _ ds => decide (uptoBulkAll ds ≤ 1048576)
def OpenSpec.upto (s : _root_.Go.ChangeSpec) : _root_.Go.OpenSpec := { _root_.Go.OpenSpec.ofChange s with cond := some uptoSmall }

/-- 'laws.FnTermOne', WHERE WHAT IT READS IS OF BULK AT MOST 1048576: true; the input reads as it did. -/
def fnTermOneUptoRow : OpenClaim := { program := "ythbakmdcepoikaa", sum := "c631ebef3d6082eb23a619e4c9dd79ca9753005a189eef5c8d6d8a692f93611f", func := "loop.example/tipstaff/laws.FnTermOne", spec := "fnTermOne", unfollowed := true, recurses := true, apart := false, narrowed := true }
def FnTermOneUptoSaid : Prop := fnTermOneUptoRow.holds Try.pinned (OpenSpec.upto fnTermOneSpec)

/-- 'laws.FnExactTermText', WHERE WHAT IT READS IS OF BULK AT MOST 1048576: true; the input reads as it did. -/
def fnExactTermTextUptoRow : OpenClaim := { program := "ythbakmdcepoikaa", sum := "c631ebef3d6082eb23a619e4c9dd79ca9753005a189eef5c8d6d8a692f93611f", func := "loop.example/tipstaff/laws.FnExactTermText", spec := "fnExactTermText", unfollowed := true, recurses := true, loops := true, apart := false, narrowed := true }
def FnExactTermTextUptoSaid : Prop := fnExactTermTextUptoRow.holds Try.pinned (OpenSpec.upto fnExactTermTextSpec)

/-- 'laws.FnExactTermPlaces', WHERE WHAT IT READS IS OF BULK AT MOST 1048576: true; the input reads as it did. -/
def fnExactTermPlacesUptoRow : OpenClaim := { program := "ythbakmdcepoikaa", sum := "c631ebef3d6082eb23a619e4c9dd79ca9753005a189eef5c8d6d8a692f93611f", func := "loop.example/tipstaff/laws.FnExactTermPlaces", spec := "fnExactTermPlaces", recurses := true, loops := true, apart := false, narrowed := true }
def FnExactTermPlacesUptoSaid : Prop := fnExactTermPlacesUptoRow.holds Try.pinned (OpenSpec.upto fnExactTermPlacesSpec)

end Rows
end Go.Proofs.Ythbakmdcepoikaa
