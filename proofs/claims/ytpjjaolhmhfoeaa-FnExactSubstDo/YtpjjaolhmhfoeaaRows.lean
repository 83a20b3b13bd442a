/-
  NARROWER THAN 'FOR EVERY INPUT', by the rows' own cells (each row's printed sentence says how): FnExactSubstOk: loops · FnExactSubstDo: loops · FnExactSubstThen: loops.
  DERIVED. THE GIVEN ROWS OF THIS SEAT. 5 by the template 'for every input the law returns true; each argument reads behind the call as it read before'; 0 by the template 'total and deterministic' (their statements: YtpjjaolhmhfoeaaTotals.lean).
  GIVEN WITH THE SEED: the statements are not yours to turn. If you find one false, say at which input.
  Laid BY PROGRAM, IN A SANDBOX (cutbox-rows.mjs): the forced cells as the released guide's own fill.sh prints them over the translation 7f15ad7ad6f2a816… (all of the seat's roots in one cut). By AI agents, Wed Nov 11 2026. No macro, syntax, notation, axiom, sorry.
-/
import Derived.Test.YtpjjaolhmhfoeaaChecked
import GoSem.Claim
import GoSem.ClaimJoined
import GoSem.ClaimMapViews
import Derived.JoinedTies
import Derived.KernelRfl
namespace Go.Proofs.Ytpjjaolhmhfoeaa
/- THE CELL 'sum', in the pinned program and in every row, IS THE sha256 OF THE DUMP (.gsa) THAT YtpjjaolhmhfoeaaProg.lean LOADS. Nothing in Lean hashes anything: it is a label: what it is worth is what the hold of that sum in a sandbox is worth. -/
noncomputable def Try.pinned : Pinned := { name := "ytpjjaolhmhfoeaa", sum := "7f15ad7ad6f2a81652b7e4fc3357129f81761bf72d01abf7b5b1743df2c6d8d9", checked := Try.checked }
namespace Rows
def none {H : Type} : Left H := { results := [], args := [] }

/-- 'laws.FnSubstThen': WHATEVER THE INPUT: true; the input reads as it did. -/
def fnSubstThenSpec : ChangeSpec := { name := "fnSubstThen", fn := fun _ => fun
  | [d1, d2] => { results := [.lit (.bool true)], args := [d1, d2] }
  | _ => none }
def fnSubstThenRow : OpenClaim := { program := "ytpjjaolhmhfoeaa", sum := "7f15ad7ad6f2a81652b7e4fc3357129f81761bf72d01abf7b5b1743df2c6d8d9", func := "loop.example/tipstaff/laws.FnSubstThen", spec := "fnSubstThen", inPlace := ["maps.clone"], unfollowed := true, recurses := true, apart := false }
def FnSubstThenSaid : Prop := fnSubstThenRow.holds Try.pinned (OpenSpec.ofChange fnSubstThenSpec)

/-- ITS FALSE NEIGHBOUR: 'it returns false'. Refute it at one input. -/
def fnSubstThenWrong : ChangeSpec := { name := "fnSubstThen", fn := fun _ => fun
  | [d1, d2] => { results := [.lit (.bool false)], args := [d1, d2] }
  | _ => none }
def FnSubstThenWrongFalsely : Prop := fnSubstThenRow.holds Try.pinned (OpenSpec.ofChange fnSubstThenWrong)

/-- 'laws.FnSubstThenThree': WHATEVER THE INPUT: true; the input reads as it did. -/
def fnSubstThenThreeSpec : ChangeSpec := { name := "fnSubstThenThree", fn := fun _ => fun
  | [d1, d2] => { results := [.lit (.bool true)], args := [d1, d2] }
  | _ => none }
def fnSubstThenThreeRow : OpenClaim := { program := "ytpjjaolhmhfoeaa", sum := "7f15ad7ad6f2a81652b7e4fc3357129f81761bf72d01abf7b5b1743df2c6d8d9", func := "loop.example/tipstaff/laws.FnSubstThenThree", spec := "fnSubstThenThree", inPlace := ["maps.clone"], unfollowed := true, recurses := true, apart := false }
def FnSubstThenThreeSaid : Prop := fnSubstThenThreeRow.holds Try.pinned (OpenSpec.ofChange fnSubstThenThreeSpec)

/-- ITS FALSE NEIGHBOUR: 'it returns false'. Refute it at one input. -/
def fnSubstThenThreeWrong : ChangeSpec := { name := "fnSubstThenThree", fn := fun _ => fun
  | [d1, d2] => { results := [.lit (.bool false)], args := [d1, d2] }
  | _ => none }
def FnSubstThenThreeWrongFalsely : Prop := fnSubstThenThreeRow.holds Try.pinned (OpenSpec.ofChange fnSubstThenThreeWrong)

/-- 'laws.FnExactSubstOk': WHATEVER THE INPUT: true; the input reads as it did. -/
def fnExactSubstOkSpec : ChangeSpec := { name := "fnExactSubstOk", fn := fun _ => fun
  | [d] => { results := [.lit (.bool true)], args := [d] }
  | _ => none }
def fnExactSubstOkRow : OpenClaim := { program := "ytpjjaolhmhfoeaa", sum := "7f15ad7ad6f2a81652b7e4fc3357129f81761bf72d01abf7b5b1743df2c6d8d9", func := "loop.example/tipstaff/laws.FnExactSubstOk", spec := "fnExactSubstOk", recurses := true, loops := true, apart := false }
def FnExactSubstOkSaid : Prop := fnExactSubstOkRow.holds Try.pinned (OpenSpec.ofChange fnExactSubstOkSpec)

/-- ITS FALSE NEIGHBOUR: 'it returns false'. Refute it at one input. -/
def fnExactSubstOkWrong : ChangeSpec := { name := "fnExactSubstOk", fn := fun _ => fun
  | [d] => { results := [.lit (.bool false)], args := [d] }
  | _ => none }
def FnExactSubstOkWrongFalsely : Prop := fnExactSubstOkRow.holds Try.pinned (OpenSpec.ofChange fnExactSubstOkWrong)

/-- 'laws.FnExactSubstDo': WHATEVER THE INPUT: true; the input reads as it did. -/
def fnExactSubstDoSpec : ChangeSpec := { name := "fnExactSubstDo", fn := fun _ => fun
  | [d1, d2] => { results := [.lit (.bool true)], args := [d1, d2] }
  | _ => none }
def fnExactSubstDoRow : OpenClaim := { program := "ytpjjaolhmhfoeaa", sum := "7f15ad7ad6f2a81652b7e4fc3357129f81761bf72d01abf7b5b1743df2c6d8d9", func := "loop.example/tipstaff/laws.FnExactSubstDo", spec := "fnExactSubstDo", unfollowed := true, recurses := true, loops := true, apart := false }
def FnExactSubstDoSaid : Prop := fnExactSubstDoRow.holds Try.pinned (OpenSpec.ofChange fnExactSubstDoSpec)

/-- ITS FALSE NEIGHBOUR: 'it returns false'. Refute it at one input. -/
def fnExactSubstDoWrong : ChangeSpec := { name := "fnExactSubstDo", fn := fun _ => fun
  | [d1, d2] => { results := [.lit (.bool false)], args := [d1, d2] }
  | _ => none }
def FnExactSubstDoWrongFalsely : Prop := fnExactSubstDoRow.holds Try.pinned (OpenSpec.ofChange fnExactSubstDoWrong)

/-- 'laws.FnExactSubstThen': WHATEVER THE INPUT: true; the input reads as it did. -/
def fnExactSubstThenSpec : ChangeSpec := { name := "fnExactSubstThen", fn := fun _ => fun
  | [d1, d2] => { results := [.lit (.bool true)], args := [d1, d2] }
  | _ => none }
def fnExactSubstThenRow : OpenClaim := { program := "ytpjjaolhmhfoeaa", sum := "7f15ad7ad6f2a81652b7e4fc3357129f81761bf72d01abf7b5b1743df2c6d8d9", func := "loop.example/tipstaff/laws.FnExactSubstThen", spec := "fnExactSubstThen", inPlace := ["maps.clone"], unfollowed := true, recurses := true, loops := true, apart := false }
def FnExactSubstThenSaid : Prop := fnExactSubstThenRow.holds Try.pinned (OpenSpec.ofChange fnExactSubstThenSpec)

/-- ITS FALSE NEIGHBOUR: 'it returns false'. Refute it at one input. -/
def fnExactSubstThenWrong : ChangeSpec := { name := "fnExactSubstThen", fn := fun _ => fun
  | [d1, d2] => { results := [.lit (.bool false)], args := [d1, d2] }
  | _ => none }
def FnExactSubstThenWrongFalsely : Prop := fnExactSubstThenRow.holds Try.pinned (OpenSpec.ofChange fnExactSubstThenWrong)

/- THE SECOND FORM. 'bulk': how many values and letters a reading holds, each counted each time it is reached (what is shared counts as often as it is met; a slice's spare places count too). A statement '..UptoSaid' is the law's where the arguments, and the package variables that the reading takes, are together of bulk at most 1048576: NARROWER than '..Said'. Prove '..Said' where nothing that the law and all that it calls make is longer than what came in: it says more and counts as full. Else prove '..UptoSaid'. A law counts once. -/
mutual
def uptoBulk {H : Type} : DataW H → Nat
  | .lit (.string bytes) => bytes.length + 1
  | .lit _ => 1
  | .nil => 1
  | .ptr d => uptoBulk d + 1
  | .slice elems spare => uptoBulkAll elems + uptoBulkAll spare + 1
  | .agg parts => uptoBulkAll parts + 1
  | .iface _ d => uptoBulk d + 1
  | .map entries => uptoBulkEntries entries + 1
  | .held _ => 1
def uptoBulkAll {H : Type} : List (DataW H) → Nat
  | [] => 0
  | d :: r => uptoBulk d + uptoBulkAll r
def uptoBulkEntries {H : Type} : List (Lit × DataW H) → Nat
  | [] => 0
  | x :: r => uptoBulkEntry x + uptoBulkEntries r
def uptoBulkEntry {H : Type} : Lit × DataW H → Nat
  | (.string bytes, d) => bytes.length + uptoBulk d + 1
  | (_, d) => uptoBulk d + 1
 end
def uptoSmall : (H : Type) → List (DataW H) → Bool := fun _ ds => decide (uptoBulkAll ds ≤ 1048576)
def OpenSpec.upto (s : _root_.Go.ChangeSpec) : _root_.Go.OpenSpec := { _root_.Go.OpenSpec.ofChange s with cond := some uptoSmall }

/-- 'laws.FnSubstThen', WHERE WHAT IT READS IS OF BULK AT MOST 1048576: true; the input reads as it did. -/
def fnSubstThenUptoRow : OpenClaim := { program := "ytpjjaolhmhfoeaa", sum := "7f15ad7ad6f2a81652b7e4fc3357129f81761bf72d01abf7b5b1743df2c6d8d9", func := "loop.example/tipstaff/laws.FnSubstThen", spec := "fnSubstThen", inPlace := ["maps.clone"], unfollowed := true, recurses := true, apart := false, narrowed := true }
def FnSubstThenUptoSaid : Prop := fnSubstThenUptoRow.holds Try.pinned (OpenSpec.upto fnSubstThenSpec)

/-- 'laws.FnSubstThenThree', WHERE WHAT IT READS IS OF BULK AT MOST 1048576: true; the input reads as it did. -/
def fnSubstThenThreeUptoRow : OpenClaim := { program := "ytpjjaolhmhfoeaa", sum := "7f15ad7ad6f2a81652b7e4fc3357129f81761bf72d01abf7b5b1743df2c6d8d9", func := "loop.example/tipstaff/laws.FnSubstThenThree", spec := "fnSubstThenThree", inPlace := ["maps.clone"], unfollowed := true, recurses := true, apart := false, narrowed := true }
def FnSubstThenThreeUptoSaid : Prop := fnSubstThenThreeUptoRow.holds Try.pinned (OpenSpec.upto fnSubstThenThreeSpec)

/-- 'laws.FnExactSubstOk', WHERE WHAT IT READS IS OF BULK AT MOST 1048576: true; the input reads as it did. -/
def fnExactSubstOkUptoRow : OpenClaim := { program := "ytpjjaolhmhfoeaa", sum := "7f15ad7ad6f2a81652b7e4fc3357129f81761bf72d01abf7b5b1743df2c6d8d9", func := "loop.example/tipstaff/laws.FnExactSubstOk", spec := "fnExactSubstOk", recurses := true, loops := true, apart := false, narrowed := true }
def FnExactSubstOkUptoSaid : Prop := fnExactSubstOkUptoRow.holds Try.pinned (OpenSpec.upto fnExactSubstOkSpec)

/-- 'laws.FnExactSubstDo', WHERE WHAT IT READS IS OF BULK AT MOST 1048576: true; the input reads as it did. -/
def fnExactSubstDoUptoRow : OpenClaim := { program := "ytpjjaolhmhfoeaa", sum := "7f15ad7ad6f2a81652b7e4fc3357129f81761bf72d01abf7b5b1743df2c6d8d9", func := "loop.example/tipstaff/laws.FnExactSubstDo", spec := "fnExactSubstDo", unfollowed := true, recurses := true, loops := true, apart := false, narrowed := true }
def FnExactSubstDoUptoSaid : Prop := fnExactSubstDoUptoRow.holds Try.pinned (OpenSpec.upto fnExactSubstDoSpec)

/-- 'laws.FnExactSubstThen', WHERE WHAT IT READS IS OF BULK AT MOST 1048576: true; the input reads as it did. -/
def fnExactSubstThenUptoRow : OpenClaim := { program := "ytpjjaolhmhfoeaa", sum := "7f15ad7ad6f2a81652b7e4fc3357129f81761bf72d01abf7b5b1743df2c6d8d9", func := "loop.example/tipstaff/laws.FnExactSubstThen", spec := "fnExactSubstThen", inPlace := ["maps.clone"], unfollowed := true, recurses := true, loops := true, apart := false, narrowed := true }
def FnExactSubstThenUptoSaid : Prop := fnExactSubstThenUptoRow.holds Try.pinned (OpenSpec.upto fnExactSubstThenSpec)

end Rows
end Go.Proofs.Ytpjjaolhmhfoeaa
