/-
  NARROWER THAN 'FOR EVERY INPUT', by the rows' own cells (each row's printed sentence says how): FnExactTermOk: loops · FnExactTermSize: loops · FnExactTermVars: loops · FnExactTermPlaces: loops · FnExactTermAt: loops · FnExactTermPut: loops · FnExactTermText: loops · FnExactSubstOk: loops.
  DERIVED. THE GIVEN ROWS OF THIS SEAT. 11 by the template 'for every input the law returns true; each argument reads behind the call as it read before'; 0 by the template 'total and deterministic' (their statements: YtebalmemncldlabTotals.lean).
  GIVEN WITH THE SEED: the statements are not yours to turn. If you find one false, say at which input.
  Laid BY PROGRAM, IN A SANDBOX (cutbox-rows.mjs): the forced cells as the released guide's own fill.sh prints them over the translation d09eb26f66a5ec52… (all of the seat's roots in one cut). By AI agents, Wed Nov 11 2026. No macro, syntax, notation, axiom, sorry.
-/
import Derived.Test.YtebalmemncldlabChecked
import GoSem.Claim
import GoSem.ClaimJoined
import GoSem.ClaimMapViews
import Derived.JoinedTies
import Derived.KernelRfl
namespace Go.Proofs.Ytebalmemncldlab
/- THE CELL 'sum', in the pinned program and in every row, IS THE sha256 OF THE DUMP (.gsa) THAT YtebalmemncldlabProg.lean LOADS. Nothing in Lean hashes anything: it is a label: what it is worth is what the hold of that sum in a sandbox is worth. -/
noncomputable def Try.pinned : Pinned := { name := "ytebalmemncldlab", sum := "d09eb26f66a5ec52ccb19309171b5c568a626b91435e9d2b96b7b2e0c52b7281", checked := Try.checked }
namespace Rows
def none {H : Type} : Left H := { results := [], args := [] }

/-- 'laws.FnTermPlaces': WHATEVER THE INPUT: true; the input reads as it did. -/
def fnTermPlacesSpec : ChangeSpec := { name := "fnTermPlaces", fn := fun _ => fun
  | [d] => { results := [.lit (.bool true)], args := [d] }
  | _ => none }
def fnTermPlacesRow : OpenClaim := { program := "ytebalmemncldlab", sum := "d09eb26f66a5ec52ccb19309171b5c568a626b91435e9d2b96b7b2e0c52b7281", func := "loop.example/tipstaff/laws.FnTermPlaces", spec := "fnTermPlaces", unfollowed := true, recurses := true, apart := false }
def FnTermPlacesSaid : Prop := fnTermPlacesRow.holds Try.pinned (OpenSpec.ofChange fnTermPlacesSpec)

/-- ITS FALSE NEIGHBOUR: 'it returns false'. Refute it at one input. -/
def fnTermPlacesWrong : ChangeSpec := { name := "fnTermPlaces", fn := fun _ => fun
  | [d] => { results := [.lit (.bool false)], args := [d] }
  | _ => none }
def FnTermPlacesWrongFalsely : Prop := fnTermPlacesRow.holds Try.pinned (OpenSpec.ofChange fnTermPlacesWrong)

/-- 'laws.FnTermKids': WHATEVER THE INPUT: true; the input reads as it did. -/
def fnTermKidsSpec : ChangeSpec := { name := "fnTermKids", fn := fun _ => fun
  | [d] => { results := [.lit (.bool true)], args := [d] }
  | _ => none }
def fnTermKidsRow : OpenClaim := { program := "ytebalmemncldlab", sum := "d09eb26f66a5ec52ccb19309171b5c568a626b91435e9d2b96b7b2e0c52b7281", func := "loop.example/tipstaff/laws.FnTermKids", spec := "fnTermKids", recurses := true, apart := false }
def FnTermKidsSaid : Prop := fnTermKidsRow.holds Try.pinned (OpenSpec.ofChange fnTermKidsSpec)

/-- ITS FALSE NEIGHBOUR: 'it returns false'. Refute it at one input. -/
def fnTermKidsWrong : ChangeSpec := { name := "fnTermKids", fn := fun _ => fun
  | [d] => { results := [.lit (.bool false)], args := [d] }
  | _ => none }
def FnTermKidsWrongFalsely : Prop := fnTermKidsRow.holds Try.pinned (OpenSpec.ofChange fnTermKidsWrong)

/-- 'laws.FnExactTermOk': WHATEVER THE INPUT: true; the input reads as it did. -/
def fnExactTermOkSpec : ChangeSpec := { name := "fnExactTermOk", fn := fun _ => fun
  | [d] => { results := [.lit (.bool true)], args := [d] }
  | _ => none }
def fnExactTermOkRow : OpenClaim := { program := "ytebalmemncldlab", sum := "d09eb26f66a5ec52ccb19309171b5c568a626b91435e9d2b96b7b2e0c52b7281", func := "loop.example/tipstaff/laws.FnExactTermOk", spec := "fnExactTermOk", recurses := true, loops := true, apart := false }
def FnExactTermOkSaid : Prop := fnExactTermOkRow.holds Try.pinned (OpenSpec.ofChange fnExactTermOkSpec)

/-- ITS FALSE NEIGHBOUR: 'it returns false'. Refute it at one input. -/
def fnExactTermOkWrong : ChangeSpec := { name := "fnExactTermOk", fn := fun _ => fun
  | [d] => { results := [.lit (.bool false)], args := [d] }
  | _ => none }
def FnExactTermOkWrongFalsely : Prop := fnExactTermOkRow.holds Try.pinned (OpenSpec.ofChange fnExactTermOkWrong)

/-- 'laws.FnExactTermSize': WHATEVER THE INPUT: true; the input reads as it did. -/
def fnExactTermSizeSpec : ChangeSpec := { name := "fnExactTermSize", fn := fun _ => fun
  | [d] => { results := [.lit (.bool true)], args := [d] }
  | _ => none }
def fnExactTermSizeRow : OpenClaim := { program := "ytebalmemncldlab", sum := "d09eb26f66a5ec52ccb19309171b5c568a626b91435e9d2b96b7b2e0c52b7281", func := "loop.example/tipstaff/laws.FnExactTermSize", spec := "fnExactTermSize", unfollowed := true, recurses := true, loops := true, apart := false }
def FnExactTermSizeSaid : Prop := fnExactTermSizeRow.holds Try.pinned (OpenSpec.ofChange fnExactTermSizeSpec)

/-- ITS FALSE NEIGHBOUR: 'it returns false'. Refute it at one input. -/
def fnExactTermSizeWrong : ChangeSpec := { name := "fnExactTermSize", fn := fun _ => fun
  | [d] => { results := [.lit (.bool false)], args := [d] }
  | _ => none }
def FnExactTermSizeWrongFalsely : Prop := fnExactTermSizeRow.holds Try.pinned (OpenSpec.ofChange fnExactTermSizeWrong)

/-- 'laws.FnExactTermVars': WHATEVER THE INPUT: true; the input reads as it did. -/
def fnExactTermVarsSpec : ChangeSpec := { name := "fnExactTermVars", fn := fun _ => fun
  | [d] => { results := [.lit (.bool true)], args := [d] }
  | _ => none }
def fnExactTermVarsRow : OpenClaim := { program := "ytebalmemncldlab", sum := "d09eb26f66a5ec52ccb19309171b5c568a626b91435e9d2b96b7b2e0c52b7281", func := "loop.example/tipstaff/laws.FnExactTermVars", spec := "fnExactTermVars", recurses := true, loops := true, apart := false }
def FnExactTermVarsSaid : Prop := fnExactTermVarsRow.holds Try.pinned (OpenSpec.ofChange fnExactTermVarsSpec)

/-- ITS FALSE NEIGHBOUR: 'it returns false'. Refute it at one input. -/
def fnExactTermVarsWrong : ChangeSpec := { name := "fnExactTermVars", fn := fun _ => fun
  | [d] => { results := [.lit (.bool false)], args := [d] }
  | _ => none }
def FnExactTermVarsWrongFalsely : Prop := fnExactTermVarsRow.holds Try.pinned (OpenSpec.ofChange fnExactTermVarsWrong)

/-- 'laws.FnExactTermPlaces': WHATEVER THE INPUT: true; the input reads as it did. -/
def fnExactTermPlacesSpec : ChangeSpec := { name := "fnExactTermPlaces", fn := fun _ => fun
  | [d] => { results := [.lit (.bool true)], args := [d] }
  | _ => none }
def fnExactTermPlacesRow : OpenClaim := { program := "ytebalmemncldlab", sum := "d09eb26f66a5ec52ccb19309171b5c568a626b91435e9d2b96b7b2e0c52b7281", func := "loop.example/tipstaff/laws.FnExactTermPlaces", spec := "fnExactTermPlaces", recurses := true, loops := true, apart := false }
def FnExactTermPlacesSaid : Prop := fnExactTermPlacesRow.holds Try.pinned (OpenSpec.ofChange fnExactTermPlacesSpec)

/-- ITS FALSE NEIGHBOUR: 'it returns false'. Refute it at one input. -/
def fnExactTermPlacesWrong : ChangeSpec := { name := "fnExactTermPlaces", fn := fun _ => fun
  | [d] => { results := [.lit (.bool false)], args := [d] }
  | _ => none }
def FnExactTermPlacesWrongFalsely : Prop := fnExactTermPlacesRow.holds Try.pinned (OpenSpec.ofChange fnExactTermPlacesWrong)

/-- 'laws.FnExactTermAt': WHATEVER THE INPUT: true; the input reads as it did. -/
def fnExactTermAtSpec : ChangeSpec := { name := "fnExactTermAt", fn := fun _ => fun
  | [d1, d2] => { results := [.lit (.bool true)], args := [d1, d2] }
  | _ => none }
def fnExactTermAtRow : OpenClaim := { program := "ytebalmemncldlab", sum := "d09eb26f66a5ec52ccb19309171b5c568a626b91435e9d2b96b7b2e0c52b7281", func := "loop.example/tipstaff/laws.FnExactTermAt", spec := "fnExactTermAt", unfollowed := true, recurses := true, loops := true, apart := false }
def FnExactTermAtSaid : Prop := fnExactTermAtRow.holds Try.pinned (OpenSpec.ofChange fnExactTermAtSpec)

/-- ITS FALSE NEIGHBOUR: 'it returns false'. Refute it at one input. -/
def fnExactTermAtWrong : ChangeSpec := { name := "fnExactTermAt", fn := fun _ => fun
  | [d1, d2] => { results := [.lit (.bool false)], args := [d1, d2] }
  | _ => none }
def FnExactTermAtWrongFalsely : Prop := fnExactTermAtRow.holds Try.pinned (OpenSpec.ofChange fnExactTermAtWrong)

/-- 'laws.FnExactTermPut': WHATEVER THE INPUT: true; the input reads as it did. -/
def fnExactTermPutSpec : ChangeSpec := { name := "fnExactTermPut", fn := fun _ => fun
  | [d1, d2, d3] => { results := [.lit (.bool true)], args := [d1, d2, d3] }
  | _ => none }
def fnExactTermPutRow : OpenClaim := { program := "ytebalmemncldlab", sum := "d09eb26f66a5ec52ccb19309171b5c568a626b91435e9d2b96b7b2e0c52b7281", func := "loop.example/tipstaff/laws.FnExactTermPut", spec := "fnExactTermPut", unfollowed := true, recurses := true, loops := true, apart := false }
def FnExactTermPutSaid : Prop := fnExactTermPutRow.holds Try.pinned (OpenSpec.ofChange fnExactTermPutSpec)

/-- ITS FALSE NEIGHBOUR: 'it returns false'. Refute it at one input. -/
def fnExactTermPutWrong : ChangeSpec := { name := "fnExactTermPut", fn := fun _ => fun
  | [d1, d2, d3] => { results := [.lit (.bool false)], args := [d1, d2, d3] }
  | _ => none }
def FnExactTermPutWrongFalsely : Prop := fnExactTermPutRow.holds Try.pinned (OpenSpec.ofChange fnExactTermPutWrong)

/-- 'laws.FnExactTermText': WHATEVER THE INPUT: true; the input reads as it did. -/
def fnExactTermTextSpec : ChangeSpec := { name := "fnExactTermText", fn := fun _ => fun
  | [d] => { results := [.lit (.bool true)], args := [d] }
  | _ => none }
def fnExactTermTextRow : OpenClaim := { program := "ytebalmemncldlab", sum := "d09eb26f66a5ec52ccb19309171b5c568a626b91435e9d2b96b7b2e0c52b7281", func := "loop.example/tipstaff/laws.FnExactTermText", spec := "fnExactTermText", unfollowed := true, recurses := true, loops := true, apart := false }
def FnExactTermTextSaid : Prop := fnExactTermTextRow.holds Try.pinned (OpenSpec.ofChange fnExactTermTextSpec)

/-- ITS FALSE NEIGHBOUR: 'it returns false'. Refute it at one input. -/
def fnExactTermTextWrong : ChangeSpec := { name := "fnExactTermText", fn := fun _ => fun
  | [d] => { results := [.lit (.bool false)], args := [d] }
  | _ => none }
def FnExactTermTextWrongFalsely : Prop := fnExactTermTextRow.holds Try.pinned (OpenSpec.ofChange fnExactTermTextWrong)

/-- 'laws.FnSubstOk': WHATEVER THE INPUT: true; the input reads as it did. -/
def fnSubstOkSpec : ChangeSpec := { name := "fnSubstOk", fn := fun _ => fun
  | [d1, d2] => { results := [.lit (.bool true)], args := [d1, d2] }
  | _ => none }
def fnSubstOkRow : OpenClaim := { program := "ytebalmemncldlab", sum := "d09eb26f66a5ec52ccb19309171b5c568a626b91435e9d2b96b7b2e0c52b7281", func := "loop.example/tipstaff/laws.FnSubstOk", spec := "fnSubstOk", recurses := true, apart := false }
def FnSubstOkSaid : Prop := fnSubstOkRow.holds Try.pinned (OpenSpec.ofChange fnSubstOkSpec)

/-- ITS FALSE NEIGHBOUR: 'it returns false'. Refute it at one input. -/
def fnSubstOkWrong : ChangeSpec := { name := "fnSubstOk", fn := fun _ => fun
  | [d1, d2] => { results := [.lit (.bool false)], args := [d1, d2] }
  | _ => none }
def FnSubstOkWrongFalsely : Prop := fnSubstOkRow.holds Try.pinned (OpenSpec.ofChange fnSubstOkWrong)

/-- 'laws.FnExactSubstOk': WHATEVER THE INPUT: true; the input reads as it did. -/
def fnExactSubstOkSpec : ChangeSpec := { name := "fnExactSubstOk", fn := fun _ => fun
  | [d] => { results := [.lit (.bool true)], args := [d] }
  | _ => none }
def fnExactSubstOkRow : OpenClaim := { program := "ytebalmemncldlab", sum := "d09eb26f66a5ec52ccb19309171b5c568a626b91435e9d2b96b7b2e0c52b7281", func := "loop.example/tipstaff/laws.FnExactSubstOk", spec := "fnExactSubstOk", recurses := true, loops := true, apart := false }
def FnExactSubstOkSaid : Prop := fnExactSubstOkRow.holds Try.pinned (OpenSpec.ofChange fnExactSubstOkSpec)

/-- ITS FALSE NEIGHBOUR: 'it returns false'. Refute it at one input. -/
def fnExactSubstOkWrong : ChangeSpec := { name := "fnExactSubstOk", fn := fun _ => fun
  | [d] => { results := [.lit (.bool false)], args := [d] }
  | _ => none }
def FnExactSubstOkWrongFalsely : Prop := fnExactSubstOkRow.holds Try.pinned (OpenSpec.ofChange fnExactSubstOkWrong)

/- THE SECOND FORM. 'bulk': how many values and letters a reading holds, each counted each time it is reached (what is shared counts as often as it is met; a slice's spare places count too). A statement '..UptoSaid' is the law's where the arguments, and the package variables that the reading takes, are together of bulk at most 1048576: NARROWER than '..Said'. Prove '..Said' where nothing that the law and all that it calls make is longer than what came in: it says more and counts as full. Else prove '..UptoSaid'. A law counts once. -/
mutual
def uptoBulk {H : Type} : DataW H → Nat
  | .lit (.string bytes) => bytes.length + 1
  | .lit _ => 1
  | .nil => 1
  | .ptr d => uptoBulk d + 1
  | .slice elems spare => uptoBulkAll elems + uptoBulkAll spare + 1
  | .agg parts => uptoBulkAll parts + 1
  | .iface _ d => uptoBulk d + 1
  | .map entries => uptoBulkEntries entries + 1
  | .held _ => 1
def uptoBulkAll {H : Type} : List (DataW H) → Nat
  | [] => 0
  | d :: r => uptoBulk d + uptoBulkAll r
def uptoBulkEntries {H : Type} : List (Lit × DataW H) → Nat
  | [] => 0
  | x :: r => uptoBulkEntry x + uptoBulkEntries r
def uptoBulkEntry {H : Type} : Lit × DataW H → Nat
  | (.string bytes, d) => bytes.length + uptoBulk d + 1
  | (_, d) => uptoBulk d + 1
 end
def uptoSmall : (H : Type) → List (DataW H) → Bool := fun _ ds => decide (uptoBulkAll ds ≤ 1048576)
def OpenSpec.upto (s : _root_.Go.ChangeSpec) : _root_.Go.OpenSpec := { _root_.Go.OpenSpec.ofChange s with cond := some uptoSmall }

/-- 'laws.FnTermPlaces', WHERE WHAT IT READS IS OF BULK AT MOST 1048576: true; the input reads as it did. -/
def fnTermPlacesUptoRow : OpenClaim := { program := "ytebalmemncldlab", sum := "d09eb26f66a5ec52ccb19309171b5c568a626b91435e9d2b96b7b2e0c52b7281", func := "loop.example/tipstaff/laws.FnTermPlaces", spec := "fnTermPlaces", unfollowed := true, recurses := true, apart := false, narrowed := true }
def FnTermPlacesUptoSaid : Prop := fnTermPlacesUptoRow.holds Try.pinned (OpenSpec.upto fnTermPlacesSpec)

/-- 'laws.FnTermKids', WHERE WHAT IT READS IS OF BULK AT MOST 1048576: true; the input reads as it did. -/
def fnTermKidsUptoRow : OpenClaim := { program := "ytebalmemncldlab", sum := "d09eb26f66a5ec52ccb19309171b5c568a626b91435e9d2b96b7b2e0c52b7281", func := "loop.example/tipstaff/laws.FnTermKids", spec := "fnTermKids", recurses := true, apart := false, narrowed := true }
def FnTermKidsUptoSaid : Prop := fnTermKidsUptoRow.holds Try.pinned (OpenSpec.upto fnTermKidsSpec)

/-- 'laws.FnExactTermOk', WHERE WHAT IT READS IS OF BULK AT MOST 1048576: true; the input reads as it did. -/
def fnExactTermOkUptoRow : OpenClaim := { program := "ytebalmemncldlab", sum := "d09eb26f66a5ec52ccb19309171b5c568a626b91435e9d2b96b7b2e0c52b7281", func := "loop.example/tipstaff/laws.FnExactTermOk", spec := "fnExactTermOk", recurses := true, loops := true, apart := false, narrowed := true }
def FnExactTermOkUptoSaid : Prop := fnExactTermOkUptoRow.holds Try.pinned (OpenSpec.upto fnExactTermOkSpec)

/-- 'laws.FnExactTermSize', WHERE WHAT IT READS IS OF BULK AT MOST 1048576: true; the input reads as it did. -/
def fnExactTermSizeUptoRow : OpenClaim := { program := "ytebalmemncldlab", sum := "d09eb26f66a5ec52ccb19309171b5c568a626b91435e9d2b96b7b2e0c52b7281", func := "loop.example/tipstaff/laws.FnExactTermSize", spec := "fnExactTermSize", unfollowed := true, recurses := true, loops := true, apart := false, narrowed := true }
def FnExactTermSizeUptoSaid : Prop := fnExactTermSizeUptoRow.holds Try.pinned (OpenSpec.upto fnExactTermSizeSpec)

/-- 'laws.FnExactTermVars', WHERE WHAT IT READS IS OF BULK AT MOST 1048576: true; the input reads as it did. -/
def fnExactTermVarsUptoRow : OpenClaim := { program := "ytebalmemncldlab", sum := "d09eb26f66a5ec52ccb19309171b5c568a626b91435e9d2b96b7b2e0c52b7281", func := "loop.example/tipstaff/laws.FnExactTermVars", spec := "fnExactTermVars", recurses := true, loops := true, apart := false, narrowed := true }
def FnExactTermVarsUptoSaid : Prop := fnExactTermVarsUptoRow.holds Try.pinned (OpenSpec.upto fnExactTermVarsSpec)

/-- 'laws.FnExactTermPlaces', WHERE WHAT IT READS IS OF BULK AT MOST 1048576: true; the input reads as it did. -/
def fnExactTermPlacesUptoRow : OpenClaim := { program := "ytebalmemncldlab", sum := "d09eb26f66a5ec52ccb19309171b5c568a626b91435e9d2b96b7b2e0c52b7281", func := "loop.example/tipstaff/laws.FnExactTermPlaces", spec := "fnExactTermPlaces", recurses := true, loops := true, apart := false, narrowed := true }
def FnExactTermPlacesUptoSaid : Prop := fnExactTermPlacesUptoRow.holds Try.pinned (OpenSpec.upto fnExactTermPlacesSpec)

/-- 'laws.FnExactTermAt', WHERE WHAT IT READS IS OF BULK AT MOST 1048576: true; the input reads as it did. -/
def fnExactTermAtUptoRow : OpenClaim := { program := "ytebalmemncldlab", sum := "d09eb26f66a5ec52ccb19309171b5c568a626b91435e9d2b96b7b2e0c52b7281", func := "loop.example/tipstaff/laws.FnExactTermAt", spec := "fnExactTermAt", unfollowed := true, recurses := true, loops := true, apart := false, narrowed := true }
def FnExactTermAtUptoSaid : Prop := fnExactTermAtUptoRow.holds Try.pinned (OpenSpec.upto fnExactTermAtSpec)

/-- 'laws.FnExactTermPut', WHERE WHAT IT READS IS OF BULK AT MOST 1048576: true; the input reads as it did. -/
def fnExactTermPutUptoRow : OpenClaim := { program := "ytebalmemncldlab", sum := "d09eb26f66a5ec52ccb19309171b5c568a626b91435e9d2b96b7b2e0c52b7281", func := "loop.example/tipstaff/laws.FnExactTermPut", spec := "fnExactTermPut", unfollowed := true, recurses := true, loops := true, apart := false, narrowed := true }
def FnExactTermPutUptoSaid : Prop := fnExactTermPutUptoRow.holds Try.pinned (OpenSpec.upto fnExactTermPutSpec)

/-- 'laws.FnExactTermText', WHERE WHAT IT READS IS OF BULK AT MOST 1048576: true; the input reads as it did. -/
def fnExactTermTextUptoRow : OpenClaim := { program := "ytebalmemncldlab", sum := "d09eb26f66a5ec52ccb19309171b5c568a626b91435e9d2b96b7b2e0c52b7281", func := "loop.example/tipstaff/laws.FnExactTermText", spec := "fnExactTermText", unfollowed := true, recurses := true, loops := true, apart := false, narrowed := true }
def FnExactTermTextUptoSaid : Prop := fnExactTermTextUptoRow.holds Try.pinned (OpenSpec.upto fnExactTermTextSpec)

/-- 'laws.FnSubstOk', WHERE WHAT IT READS IS OF BULK AT MOST 1048576: true; the input reads as it did. -/
def fnSubstOkUptoRow : OpenClaim := { program := "ytebalmemncldlab", sum := "d09eb26f66a5ec52ccb19309171b5c568a626b91435e9d2b96b7b2e0c52b7281", func := "loop.example/tipstaff/laws.FnSubstOk", spec := "fnSubstOk", recurses := true, apart := false, narrowed := true }
def FnSubstOkUptoSaid : Prop := fnSubstOkUptoRow.holds Try.pinned (OpenSpec.upto fnSubstOkSpec)

/-- 'laws.FnExactSubstOk', WHERE WHAT IT READS IS OF BULK AT MOST 1048576: true; the input reads as it did. -/
def fnExactSubstOkUptoRow : OpenClaim := { program := "ytebalmemncldlab", sum := "d09eb26f66a5ec52ccb19309171b5c568a626b91435e9d2b96b7b2e0c52b7281", func := "loop.example/tipstaff/laws.FnExactSubstOk", spec := "fnExactSubstOk", recurses := true, loops := true, apart := false, narrowed := true }
def FnExactSubstOkUptoSaid : Prop := fnExactSubstOkUptoRow.holds Try.pinned (OpenSpec.upto fnExactSubstOkSpec)

end Rows
end Go.Proofs.Ytebalmemncldlab
