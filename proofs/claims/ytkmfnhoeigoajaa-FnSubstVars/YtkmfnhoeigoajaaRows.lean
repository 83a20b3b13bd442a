/-
  No cell of these rows narrows 'for every input' (looked for: loops, veiled, ifaces, maps, wideKeys, modest, calm, conditions, laid).
  DERIVED. THE GIVEN ROWS OF THIS SEAT. 6 by the template 'for every input the law returns true; each argument reads behind the call as it read before'; 0 by the template 'total and deterministic' (their statements: YtkmfnhoeigoajaaTotals.lean).
  GIVEN WITH THE SEED: the statements are not yours to turn. If you find one false, say at which input.
  Laid BY PROGRAM, IN A SANDBOX (cutbox-rows.mjs): the forced cells as the released guide's own fill.sh prints them over the translation abb5d8506c52efd7… (all of the seat's roots in one cut). By AI agents, Wed Nov 11 2026. No macro, syntax, notation, axiom, sorry.
-/
import Derived.Test.YtkmfnhoeigoajaaChecked
import GoSem.Claim
import GoSem.ClaimJoined
import GoSem.ClaimMapViews
import Derived.JoinedTies
import Derived.KernelRfl
namespace Go.Proofs.Ytkmfnhoeigoajaa
/- THE CELL 'sum', in the pinned program and in every row, IS THE sha256 OF THE DUMP (.gsa) THAT YtkmfnhoeigoajaaProg.lean LOADS. Nothing in Lean hashes anything: it is a label: what it is worth is what the hold of that sum in a sandbox is worth. -/
noncomputable def Try.pinned : Pinned := { name := "ytkmfnhoeigoajaa", sum := "abb5d8506c52efd73a9aadc2d577ddee22d2949e251a25349167acaf2a042140", checked := Try.checked }
namespace Rows
def none {H : Type} : Left H := { results := [], args := [] }

/-- 'laws.FnSubstDo': WHATEVER THE INPUT: true; the input reads as it did. -/
def fnSubstDoSpec : ChangeSpec := { name := "fnSubstDo", fn := fun _ => fun
  | [d] => { results := [.lit (.bool true)], args := [d] }
  | _ => none }
def fnSubstDoRow : OpenClaim := { program := "ytkmfnhoeigoajaa", sum := "abb5d8506c52efd73a9aadc2d577ddee22d2949e251a25349167acaf2a042140", func := "loop.example/tipstaff/laws.FnSubstDo", spec := "fnSubstDo", unfollowed := true, recurses := true, apart := false }
def FnSubstDoSaid : Prop := fnSubstDoRow.holds Try.pinned (OpenSpec.ofChange fnSubstDoSpec)

/-- ITS FALSE NEIGHBOUR: 'it returns false'. Refute it at one input. -/
def fnSubstDoWrong : ChangeSpec := { name := "fnSubstDo", fn := fun _ => fun
  | [d] => { results := [.lit (.bool false)], args := [d] }
  | _ => none }
def FnSubstDoWrongFalsely : Prop := fnSubstDoRow.holds Try.pinned (OpenSpec.ofChange fnSubstDoWrong)

/-- 'laws.FnSubstNone': WHATEVER THE INPUT: true; the input reads as it did. -/
def fnSubstNoneSpec : ChangeSpec := { name := "fnSubstNone", fn := fun _ => fun
  | [d] => { results := [.lit (.bool true)], args := [d] }
  | _ => none }
def fnSubstNoneRow : OpenClaim := { program := "ytkmfnhoeigoajaa", sum := "abb5d8506c52efd73a9aadc2d577ddee22d2949e251a25349167acaf2a042140", func := "loop.example/tipstaff/laws.FnSubstNone", spec := "fnSubstNone", unfollowed := true, recurses := true, apart := false }
def FnSubstNoneSaid : Prop := fnSubstNoneRow.holds Try.pinned (OpenSpec.ofChange fnSubstNoneSpec)

/-- ITS FALSE NEIGHBOUR: 'it returns false'. Refute it at one input. -/
def fnSubstNoneWrong : ChangeSpec := { name := "fnSubstNone", fn := fun _ => fun
  | [d] => { results := [.lit (.bool false)], args := [d] }
  | _ => none }
def FnSubstNoneWrongFalsely : Prop := fnSubstNoneRow.holds Try.pinned (OpenSpec.ofChange fnSubstNoneWrong)

/-- 'laws.FnSubstOk': WHATEVER THE INPUT: true; the input reads as it did. -/
def fnSubstOkSpec : ChangeSpec := { name := "fnSubstOk", fn := fun _ => fun
  | [d1, d2] => { results := [.lit (.bool true)], args := [d1, d2] }
  | _ => none }
def fnSubstOkRow : OpenClaim := { program := "ytkmfnhoeigoajaa", sum := "abb5d8506c52efd73a9aadc2d577ddee22d2949e251a25349167acaf2a042140", func := "loop.example/tipstaff/laws.FnSubstOk", spec := "fnSubstOk", recurses := true, apart := false }
def FnSubstOkSaid : Prop := fnSubstOkRow.holds Try.pinned (OpenSpec.ofChange fnSubstOkSpec)

/-- ITS FALSE NEIGHBOUR: 'it returns false'. Refute it at one input. -/
def fnSubstOkWrong : ChangeSpec := { name := "fnSubstOk", fn := fun _ => fun
  | [d1, d2] => { results := [.lit (.bool false)], args := [d1, d2] }
  | _ => none }
def FnSubstOkWrongFalsely : Prop := fnSubstOkRow.holds Try.pinned (OpenSpec.ofChange fnSubstOkWrong)

/-- 'laws.FnSubstPut': WHATEVER THE INPUT: true; the input reads as it did. -/
def fnSubstPutSpec : ChangeSpec := { name := "fnSubstPut", fn := fun _ => fun
  | [d1, d2] => { results := [.lit (.bool true)], args := [d1, d2] }
  | _ => none }
def fnSubstPutRow : OpenClaim := { program := "ytkmfnhoeigoajaa", sum := "abb5d8506c52efd73a9aadc2d577ddee22d2949e251a25349167acaf2a042140", func := "loop.example/tipstaff/laws.FnSubstPut", spec := "fnSubstPut", unfollowed := true, recurses := true, apart := false }
def FnSubstPutSaid : Prop := fnSubstPutRow.holds Try.pinned (OpenSpec.ofChange fnSubstPutSpec)

/-- ITS FALSE NEIGHBOUR: 'it returns false'. Refute it at one input. -/
def fnSubstPutWrong : ChangeSpec := { name := "fnSubstPut", fn := fun _ => fun
  | [d1, d2] => { results := [.lit (.bool false)], args := [d1, d2] }
  | _ => none }
def FnSubstPutWrongFalsely : Prop := fnSubstPutRow.holds Try.pinned (OpenSpec.ofChange fnSubstPutWrong)

/-- 'laws.FnSubstSize': WHATEVER THE INPUT: true; the input reads as it did. -/
def fnSubstSizeSpec : ChangeSpec := { name := "fnSubstSize", fn := fun _ => fun
  | [d] => { results := [.lit (.bool true)], args := [d] }
  | _ => none }
def fnSubstSizeRow : OpenClaim := { program := "ytkmfnhoeigoajaa", sum := "abb5d8506c52efd73a9aadc2d577ddee22d2949e251a25349167acaf2a042140", func := "loop.example/tipstaff/laws.FnSubstSize", spec := "fnSubstSize", unfollowed := true, recurses := true, apart := false }
def FnSubstSizeSaid : Prop := fnSubstSizeRow.holds Try.pinned (OpenSpec.ofChange fnSubstSizeSpec)

/-- ITS FALSE NEIGHBOUR: 'it returns false'. Refute it at one input. -/
def fnSubstSizeWrong : ChangeSpec := { name := "fnSubstSize", fn := fun _ => fun
  | [d] => { results := [.lit (.bool false)], args := [d] }
  | _ => none }
def FnSubstSizeWrongFalsely : Prop := fnSubstSizeRow.holds Try.pinned (OpenSpec.ofChange fnSubstSizeWrong)

/-- 'laws.FnSubstVars': WHATEVER THE INPUT: true; the input reads as it did. -/
def fnSubstVarsSpec : ChangeSpec := { name := "fnSubstVars", fn := fun _ => fun
  | [d] => { results := [.lit (.bool true)], args := [d] }
  | _ => none }
def fnSubstVarsRow : OpenClaim := { program := "ytkmfnhoeigoajaa", sum := "abb5d8506c52efd73a9aadc2d577ddee22d2949e251a25349167acaf2a042140", func := "loop.example/tipstaff/laws.FnSubstVars", spec := "fnSubstVars", unfollowed := true, recurses := true, apart := false }
def FnSubstVarsSaid : Prop := fnSubstVarsRow.holds Try.pinned (OpenSpec.ofChange fnSubstVarsSpec)

/-- ITS FALSE NEIGHBOUR: 'it returns false'. Refute it at one input. -/
def fnSubstVarsWrong : ChangeSpec := { name := "fnSubstVars", fn := fun _ => fun
  | [d] => { results := [.lit (.bool false)], args := [d] }
  | _ => none }
def FnSubstVarsWrongFalsely : Prop := fnSubstVarsRow.holds Try.pinned (OpenSpec.ofChange fnSubstVarsWrong)

/- THE SECOND FORM. 'bulk': how many values and letters a reading holds, each counted each time it is reached (what is shared counts as often as it is met; a slice's spare places count too). A statement '..UptoSaid' is the law's where the arguments, and the package variables that the reading takes, are together of bulk at most 1048576: NARROWER than '..Said'. Prove '..Said' where nothing that the law and all that it calls make is longer than what came in: it says more and counts as full. Else prove '..UptoSaid'. A law counts once. -/
mutual
def uptoBulk {H : Type} : DataW H → Nat
  | .lit (.string bytes) => bytes.length + 1
  | .lit _ => 1
  | .nil => 1
  | .ptr d => uptoBulk d + 1
  | .slice elems spare => uptoBulkAll elems + uptoBulkAll spare + 1
  | .agg parts => uptoBulkAll parts + 1
  | .iface _ d => uptoBulk d + 1
  | .map entries => uptoBulkEntries entries + 1
  | .held _ => 1
def uptoBulkAll {H : Type} : List (DataW H) → Nat
  | [] => 0
  | d :: r => uptoBulk d + uptoBulkAll r
def uptoBulkEntries {H : Type} : List (Lit × DataW H) → Nat
  | [] => 0
  | x :: r => uptoBulkEntry x + uptoBulkEntries r
def uptoBulkEntry {H : Type} : Lit × DataW H → Nat
  | (.string bytes, d) => bytes.length + uptoBulk d + 1
  | (_, d) => uptoBulk d + 1
 end
def uptoSmall : (H : Type) → List (DataW H) → Bool := fun _ ds => decide (uptoBulkAll ds ≤ 1048576)
def OpenSpec.upto (s : _root_.Go.ChangeSpec) : _root_.Go.OpenSpec := { _root_.Go.OpenSpec.ofChange s with cond := some uptoSmall }

/-- 'laws.FnSubstDo', WHERE WHAT IT READS IS OF BULK AT MOST 1048576: true; the input reads as it did. -/
def fnSubstDoUptoRow : OpenClaim := { program := "ytkmfnhoeigoajaa", sum := "abb5d8506c52efd73a9aadc2d577ddee22d2949e251a25349167acaf2a042140", func := "loop.example/tipstaff/laws.FnSubstDo", spec := "fnSubstDo", unfollowed := true, recurses := true, apart := false, narrowed := true }
def FnSubstDoUptoSaid : Prop := fnSubstDoUptoRow.holds Try.pinned (OpenSpec.upto fnSubstDoSpec)

/-- 'laws.FnSubstNone', WHERE WHAT IT READS IS OF BULK AT MOST 1048576: true; the input reads as it did. -/
def fnSubstNoneUptoRow : OpenClaim := { program := "ytkmfnhoeigoajaa", sum := "abb5d8506c52efd73a9aadc2d577ddee22d2949e251a25349167acaf2a042140", func := "loop.example/tipstaff/laws.FnSubstNone", spec := "fnSubstNone", unfollowed := true, recurses := true, apart := false, narrowed := true }
def FnSubstNoneUptoSaid : Prop := fnSubstNoneUptoRow.holds Try.pinned (OpenSpec.upto fnSubstNoneSpec)

/-- 'laws.FnSubstOk', WHERE WHAT IT READS IS OF BULK AT MOST 1048576: true; the input reads as it did. -/
def fnSubstOkUptoRow : OpenClaim := { program := "ytkmfnhoeigoajaa", sum := "abb5d8506c52efd73a9aadc2d577ddee22d2949e251a25349167acaf2a042140", func := "loop.example/tipstaff/laws.FnSubstOk", spec := "fnSubstOk", recurses := true, apart := false, narrowed := true }
def FnSubstOkUptoSaid : Prop := fnSubstOkUptoRow.holds Try.pinned (OpenSpec.upto fnSubstOkSpec)

/-- 'laws.FnSubstPut', WHERE WHAT IT READS IS OF BULK AT MOST 1048576: true; the input reads as it did. -/
def fnSubstPutUptoRow : OpenClaim := { program := "ytkmfnhoeigoajaa", sum := "abb5d8506c52efd73a9aadc2d577ddee22d2949e251a25349167acaf2a042140", func := "loop.example/tipstaff/laws.FnSubstPut", spec := "fnSubstPut", unfollowed := true, recurses := true, apart := false, narrowed := true }
def FnSubstPutUptoSaid : Prop := fnSubstPutUptoRow.holds Try.pinned (OpenSpec.upto fnSubstPutSpec)

/-- 'laws.FnSubstSize', WHERE WHAT IT READS IS OF BULK AT MOST 1048576: true; the input reads as it did. -/
def fnSubstSizeUptoRow : OpenClaim := { program := "ytkmfnhoeigoajaa", sum := "abb5d8506c52efd73a9aadc2d577ddee22d2949e251a25349167acaf2a042140", func := "loop.example/tipstaff/laws.FnSubstSize", spec := "fnSubstSize", unfollowed := true, recurses := true, apart := false, narrowed := true }
def FnSubstSizeUptoSaid : Prop := fnSubstSizeUptoRow.holds Try.pinned (OpenSpec.upto fnSubstSizeSpec)

/-- 'laws.FnSubstVars', WHERE WHAT IT READS IS OF BULK AT MOST 1048576: true; the input reads as it did. -/
def fnSubstVarsUptoRow : OpenClaim := { program := "ytkmfnhoeigoajaa", sum := "abb5d8506c52efd73a9aadc2d577ddee22d2949e251a25349167acaf2a042140", func := "loop.example/tipstaff/laws.FnSubstVars", spec := "fnSubstVars", unfollowed := true, recurses := true, apart := false, narrowed := true }
def FnSubstVarsUptoSaid : Prop := fnSubstVarsUptoRow.holds Try.pinned (OpenSpec.upto fnSubstVarsSpec)

end Rows
end Go.Proofs.Ytkmfnhoeigoajaa
