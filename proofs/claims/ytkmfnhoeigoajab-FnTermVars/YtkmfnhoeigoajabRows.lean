/-
  NARROWER THAN 'FOR EVERY INPUT', by the rows' own cells (each row's printed sentence says how): FnExactTermAt: loops · FnExactTermPut: loops · FnExactTermVars: loops.
  DERIVED. THE GIVEN ROWS OF THIS SEAT. 6 by the template 'for every input the law returns true; each argument reads behind the call as it read before'; 0 by the template 'total and deterministic' (their statements: YtkmfnhoeigoajabTotals.lean).
  GIVEN WITH THE SEED: the statements are not yours to turn. If you find one false, say at which input.
  Laid BY PROGRAM, IN A SANDBOX (cutbox-rows.mjs): the forced cells as the released guide's own fill.sh prints them over the translation 25f785098b593c9c… (all of the seat's roots in one cut). By AI agents, Wed Nov 11 2026. No macro, syntax, notation, axiom, sorry.
-/
import Derived.Test.YtkmfnhoeigoajabChecked
import GoSem.Claim
import GoSem.ClaimJoined
import GoSem.ClaimMapViews
import Derived.JoinedTies
import Derived.KernelRfl
namespace Go.Proofs.Ytkmfnhoeigoajab
/- THE CELL 'sum', in the pinned program and in every row, IS THE sha256 OF THE DUMP (.gsa) THAT YtkmfnhoeigoajabProg.lean LOADS. Nothing in Lean hashes anything: it is a label: what it is worth is what the hold of that sum in a sandbox is worth. -/
noncomputable def Try.pinned : Pinned := { name := "ytkmfnhoeigoajab", sum := "25f785098b593c9ca77861cf603b12726abf5ee781b6199dc635a97de3b0ebb3", checked := Try.checked }
namespace Rows
def none {H : Type} : Left H := { results := [], args := [] }

/-- 'laws.FnTermPutVars': WHATEVER THE INPUT: true; the input reads as it did. -/
def fnTermPutVarsSpec : ChangeSpec := { name := "fnTermPutVars", fn := fun _ => fun
  | [d] => { results := [.lit (.bool true)], args := [d] }
  | _ => none }
def fnTermPutVarsRow : OpenClaim := { program := "ytkmfnhoeigoajab", sum := "25f785098b593c9ca77861cf603b12726abf5ee781b6199dc635a97de3b0ebb3", func := "loop.example/tipstaff/laws.FnTermPutVars", spec := "fnTermPutVars", unfollowed := true, recurses := true, apart := false }
def FnTermPutVarsSaid : Prop := fnTermPutVarsRow.holds Try.pinned (OpenSpec.ofChange fnTermPutVarsSpec)

/-- ITS FALSE NEIGHBOUR: 'it returns false'. Refute it at one input. -/
def fnTermPutVarsWrong : ChangeSpec := { name := "fnTermPutVars", fn := fun _ => fun
  | [d] => { results := [.lit (.bool false)], args := [d] }
  | _ => none }
def FnTermPutVarsWrongFalsely : Prop := fnTermPutVarsRow.holds Try.pinned (OpenSpec.ofChange fnTermPutVarsWrong)

/-- 'laws.FnTermVars': WHATEVER THE INPUT: true; the input reads as it did. -/
def fnTermVarsSpec : ChangeSpec := { name := "fnTermVars", fn := fun _ => fun
  | [d] => { results := [.lit (.bool true)], args := [d] }
  | _ => none }
def fnTermVarsRow : OpenClaim := { program := "ytkmfnhoeigoajab", sum := "25f785098b593c9ca77861cf603b12726abf5ee781b6199dc635a97de3b0ebb3", func := "loop.example/tipstaff/laws.FnTermVars", spec := "fnTermVars", unfollowed := true, recurses := true, apart := false }
def FnTermVarsSaid : Prop := fnTermVarsRow.holds Try.pinned (OpenSpec.ofChange fnTermVarsSpec)

/-- ITS FALSE NEIGHBOUR: 'it returns false'. Refute it at one input. -/
def fnTermVarsWrong : ChangeSpec := { name := "fnTermVars", fn := fun _ => fun
  | [d] => { results := [.lit (.bool false)], args := [d] }
  | _ => none }
def FnTermVarsWrongFalsely : Prop := fnTermVarsRow.holds Try.pinned (OpenSpec.ofChange fnTermVarsWrong)

/-- 'laws.FnTermOne': WHATEVER THE INPUT: true; the input reads as it did. -/
def fnTermOneSpec : ChangeSpec := { name := "fnTermOne", fn := fun _ => fun
  | [d1, d2] => { results := [.lit (.bool true)], args := [d1, d2] }
  | _ => none }
def fnTermOneRow : OpenClaim := { program := "ytkmfnhoeigoajab", sum := "25f785098b593c9ca77861cf603b12726abf5ee781b6199dc635a97de3b0ebb3", func := "loop.example/tipstaff/laws.FnTermOne", spec := "fnTermOne", unfollowed := true, recurses := true, apart := false }
def FnTermOneSaid : Prop := fnTermOneRow.holds Try.pinned (OpenSpec.ofChange fnTermOneSpec)

/-- ITS FALSE NEIGHBOUR: 'it returns false'. Refute it at one input. -/
def fnTermOneWrong : ChangeSpec := { name := "fnTermOne", fn := fun _ => fun
  | [d1, d2] => { results := [.lit (.bool false)], args := [d1, d2] }
  | _ => none }
def FnTermOneWrongFalsely : Prop := fnTermOneRow.holds Try.pinned (OpenSpec.ofChange fnTermOneWrong)

/-- 'laws.FnExactTermAt': WHATEVER THE INPUT: true; the input reads as it did. -/
def fnExactTermAtSpec : ChangeSpec := { name := "fnExactTermAt", fn := fun _ => fun
  | [d1, d2] => { results := [.lit (.bool true)], args := [d1, d2] }
  | _ => none }
def fnExactTermAtRow : OpenClaim := { program := "ytkmfnhoeigoajab", sum := "25f785098b593c9ca77861cf603b12726abf5ee781b6199dc635a97de3b0ebb3", func := "loop.example/tipstaff/laws.FnExactTermAt", spec := "fnExactTermAt", unfollowed := true, recurses := true, loops := true, apart := false }
def FnExactTermAtSaid : Prop := fnExactTermAtRow.holds Try.pinned (OpenSpec.ofChange fnExactTermAtSpec)

/-- ITS FALSE NEIGHBOUR: 'it returns false'. Refute it at one input. -/
def fnExactTermAtWrong : ChangeSpec := { name := "fnExactTermAt", fn := fun _ => fun
  | [d1, d2] => { results := [.lit (.bool false)], args := [d1, d2] }
  | _ => none }
def FnExactTermAtWrongFalsely : Prop := fnExactTermAtRow.holds Try.pinned (OpenSpec.ofChange fnExactTermAtWrong)

/-- 'laws.FnExactTermPut': WHATEVER THE INPUT: true; the input reads as it did. -/
def fnExactTermPutSpec : ChangeSpec := { name := "fnExactTermPut", fn := fun _ => fun
  | [d1, d2, d3] => { results := [.lit (.bool true)], args := [d1, d2, d3] }
  | _ => none }
def fnExactTermPutRow : OpenClaim := { program := "ytkmfnhoeigoajab", sum := "25f785098b593c9ca77861cf603b12726abf5ee781b6199dc635a97de3b0ebb3", func := "loop.example/tipstaff/laws.FnExactTermPut", spec := "fnExactTermPut", unfollowed := true, recurses := true, loops := true, apart := false }
def FnExactTermPutSaid : Prop := fnExactTermPutRow.holds Try.pinned (OpenSpec.ofChange fnExactTermPutSpec)

/-- ITS FALSE NEIGHBOUR: 'it returns false'. Refute it at one input. -/
def fnExactTermPutWrong : ChangeSpec := { name := "fnExactTermPut", fn := fun _ => fun
  | [d1, d2, d3] => { results := [.lit (.bool false)], args := [d1, d2, d3] }
  | _ => none }
def FnExactTermPutWrongFalsely : Prop := fnExactTermPutRow.holds Try.pinned (OpenSpec.ofChange fnExactTermPutWrong)

/-- 'laws.FnExactTermVars': WHATEVER THE INPUT: true; the input reads as it did. -/
def fnExactTermVarsSpec : ChangeSpec := { name := "fnExactTermVars", fn := fun _ => fun
  | [d] => { results := [.lit (.bool true)], args := [d] }
  | _ => none }
def fnExactTermVarsRow : OpenClaim := { program := "ytkmfnhoeigoajab", sum := "25f785098b593c9ca77861cf603b12726abf5ee781b6199dc635a97de3b0ebb3", func := "loop.example/tipstaff/laws.FnExactTermVars", spec := "fnExactTermVars", recurses := true, loops := true, apart := false }
def FnExactTermVarsSaid : Prop := fnExactTermVarsRow.holds Try.pinned (OpenSpec.ofChange fnExactTermVarsSpec)

/-- ITS FALSE NEIGHBOUR: 'it returns false'. Refute it at one input. -/
def fnExactTermVarsWrong : ChangeSpec := { name := "fnExactTermVars", fn := fun _ => fun
  | [d] => { results := [.lit (.bool false)], args := [d] }
  | _ => none }
def FnExactTermVarsWrongFalsely : Prop := fnExactTermVarsRow.holds Try.pinned (OpenSpec.ofChange fnExactTermVarsWrong)

/- THE SECOND FORM. 'bulk': how many values and letters a reading holds, each counted each time it is reached (what is shared counts as often as it is met; a slice's spare places count too). A statement '..UptoSaid' is the law's where the arguments, and the package variables that the reading takes, are together of bulk at most 1048576: NARROWER than '..Said'. Prove '..Said' where nothing that the law and all that it calls make is longer than what came in: it says more and counts as full. Else prove '..UptoSaid'. A law counts once. -/
mutual
def uptoBulk {H : Type} : DataW H → Nat
  | .lit (.string bytes) => bytes.length + 1
  | .lit _ => 1
  | .nil => 1
  | .ptr d => uptoBulk d + 1
  | .slice elems spare => uptoBulkAll elems + uptoBulkAll spare + 1
  | .agg parts => uptoBulkAll parts + 1
  | .iface _ d => uptoBulk d + 1
  | .map entries => uptoBulkEntries entries + 1
  | .held _ => 1
def uptoBulkAll {H : Type} : List (DataW H) → Nat
  | [] => 0
  | d :: r => uptoBulk d + uptoBulkAll r
def uptoBulkEntries {H : Type} : List (Lit × DataW H) → Nat
  | [] => 0
  | x :: r => uptoBulkEntry x + uptoBulkEntries r
def uptoBulkEntry {H : Type} : Lit × DataW H → Nat
  | (.string bytes, d) => bytes.length + uptoBulk d + 1
  | (_, d) => uptoBulk d + 1
 end
def uptoSmall : (H : Type) → List (DataW H) → Bool := fun _ ds => decide (uptoBulkAll ds ≤ 1048576)
def OpenSpec.upto (s : _root_.Go.ChangeSpec) : _root_.Go.OpenSpec := { _root_.Go.OpenSpec.ofChange s with cond := some uptoSmall }

/-- 'laws.FnTermPutVars', WHERE WHAT IT READS IS OF BULK AT MOST 1048576: true; the input reads as it did. -/
def fnTermPutVarsUptoRow : OpenClaim := { program := "ytkmfnhoeigoajab", sum := "25f785098b593c9ca77861cf603b12726abf5ee781b6199dc635a97de3b0ebb3", func := "loop.example/tipstaff/laws.FnTermPutVars", spec := "fnTermPutVars", unfollowed := true, recurses := true, apart := false, narrowed := true }
def FnTermPutVarsUptoSaid : Prop := fnTermPutVarsUptoRow.holds Try.pinned (OpenSpec.upto fnTermPutVarsSpec)

/-- 'laws.FnTermVars', WHERE WHAT IT READS IS OF BULK AT MOST 1048576: true; the input reads as it did. -/
def fnTermVarsUptoRow : OpenClaim := { program := "ytkmfnhoeigoajab", sum := "25f785098b593c9ca77861cf603b12726abf5ee781b6199dc635a97de3b0ebb3", func := "loop.example/tipstaff/laws.FnTermVars", spec := "fnTermVars", unfollowed := true, recurses := true, apart := false, narrowed := true }
def FnTermVarsUptoSaid : Prop := fnTermVarsUptoRow.holds Try.pinned (OpenSpec.upto fnTermVarsSpec)

/-- 'laws.FnTermOne', WHERE WHAT IT READS IS OF BULK AT MOST 1048576: true; the input reads as it did. -/
def fnTermOneUptoRow : OpenClaim := { program := "ytkmfnhoeigoajab", sum := "25f785098b593c9ca77861cf603b12726abf5ee781b6199dc635a97de3b0ebb3", func := "loop.example/tipstaff/laws.FnTermOne", spec := "fnTermOne", unfollowed := true, recurses := true, apart := false, narrowed := true }
def FnTermOneUptoSaid : Prop := fnTermOneUptoRow.holds Try.pinned (OpenSpec.upto fnTermOneSpec)

/-- 'laws.FnExactTermAt', WHERE WHAT IT READS IS OF BULK AT MOST 1048576: true; the input reads as it did. -/
def fnExactTermAtUptoRow : OpenClaim := { program := "ytkmfnhoeigoajab", sum := "25f785098b593c9ca77861cf603b12726abf5ee781b6199dc635a97de3b0ebb3", func := "loop.example/tipstaff/laws.FnExactTermAt", spec := "fnExactTermAt", unfollowed := true, recurses := true, loops := true, apart := false, narrowed := true }
def FnExactTermAtUptoSaid : Prop := fnExactTermAtUptoRow.holds Try.pinned (OpenSpec.upto fnExactTermAtSpec)

/-- 'laws.FnExactTermPut', WHERE WHAT IT READS IS OF BULK AT MOST 1048576: true; the input reads as it did. -/
def fnExactTermPutUptoRow : OpenClaim := { program := "ytkmfnhoeigoajab", sum := "25f785098b593c9ca77861cf603b12726abf5ee781b6199dc635a97de3b0ebb3", func := "loop.example/tipstaff/laws.FnExactTermPut", spec := "fnExactTermPut", unfollowed := true, recurses := true, loops := true, apart := false, narrowed := true }
def FnExactTermPutUptoSaid : Prop := fnExactTermPutUptoRow.holds Try.pinned (OpenSpec.upto fnExactTermPutSpec)

/-- 'laws.FnExactTermVars', WHERE WHAT IT READS IS OF BULK AT MOST 1048576: true; the input reads as it did. -/
def fnExactTermVarsUptoRow : OpenClaim := { program := "ytkmfnhoeigoajab", sum := "25f785098b593c9ca77861cf603b12726abf5ee781b6199dc635a97de3b0ebb3", func := "loop.example/tipstaff/laws.FnExactTermVars", spec := "fnExactTermVars", recurses := true, loops := true, apart := false, narrowed := true }
def FnExactTermVarsUptoSaid : Prop := fnExactTermVarsUptoRow.holds Try.pinned (OpenSpec.upto fnExactTermVarsSpec)

end Rows
end Go.Proofs.Ytkmfnhoeigoajab
