/-
  No cell of these rows narrows 'for every input' (looked for: loops, veiled, ifaces, maps, wideKeys, modest, calm, conditions, laid).
  DERIVED. THE GIVEN ROWS OF THIS SEAT. 10 by the template 'for every input the law returns true; each argument reads behind the call as it read before'; 0 by the template 'total and deterministic' (their statements: YtebalmemncldlaaTotals.lean).
  GIVEN WITH THE SEED: the statements are not yours to turn. If you find one false, say at which input.
  Laid BY PROGRAM, IN A SANDBOX (cutbox-rows.mjs): the forced cells as the released guide's own fill.sh prints them over the translation 7a527dc61b2a60dc… (all of the seat's roots in one cut). By AI agents, Wed Nov 11 2026. No macro, syntax, notation, axiom, sorry.
-/
import Derived.Test.YtebalmemncldlaaChecked
import GoSem.Claim
import GoSem.ClaimJoined
import GoSem.ClaimMapViews
import Derived.JoinedTies
import Derived.KernelRfl
namespace Go.Proofs.Ytebalmemncldlaa
/- THE CELL 'sum', in the pinned program and in every row, IS THE sha256 OF THE DUMP (.gsa) THAT YtebalmemncldlaaProg.lean LOADS. Nothing in Lean hashes anything: it is a label: what it is worth is what the hold of that sum in a sandbox is worth. -/
noncomputable def Try.pinned : Pinned := { name := "ytebalmemncldlaa", sum := "7a527dc61b2a60dc3b529ffdbdd5d2f2ef688b1ab89c28b2e480358f050bb3c6", checked := Try.checked }
namespace Rows
def none {H : Type} : Left H := { results := [], args := [] }

/-- 'laws.FnTermAt': WHATEVER THE INPUT: true; the input reads as it did. -/
def fnTermAtSpec : ChangeSpec := { name := "fnTermAt", fn := fun _ => fun
  | [d1, d2] => { results := [.lit (.bool true)], args := [d1, d2] }
  | _ => none }
def fnTermAtRow : OpenClaim := { program := "ytebalmemncldlaa", sum := "7a527dc61b2a60dc3b529ffdbdd5d2f2ef688b1ab89c28b2e480358f050bb3c6", func := "loop.example/tipstaff/laws.FnTermAt", spec := "fnTermAt", unfollowed := true, recurses := true, apart := false }
def FnTermAtSaid : Prop := fnTermAtRow.holds Try.pinned (OpenSpec.ofChange fnTermAtSpec)

/-- ITS FALSE NEIGHBOUR: 'it returns false'. Refute it at one input. -/
def fnTermAtWrong : ChangeSpec := { name := "fnTermAt", fn := fun _ => fun
  | [d1, d2] => { results := [.lit (.bool false)], args := [d1, d2] }
  | _ => none }
def FnTermAtWrongFalsely : Prop := fnTermAtRow.holds Try.pinned (OpenSpec.ofChange fnTermAtWrong)

/-- 'laws.FnTermPut': WHATEVER THE INPUT: true; the input reads as it did. -/
def fnTermPutSpec : ChangeSpec := { name := "fnTermPut", fn := fun _ => fun
  | [d] => { results := [.lit (.bool true)], args := [d] }
  | _ => none }
def fnTermPutRow : OpenClaim := { program := "ytebalmemncldlaa", sum := "7a527dc61b2a60dc3b529ffdbdd5d2f2ef688b1ab89c28b2e480358f050bb3c6", func := "loop.example/tipstaff/laws.FnTermPut", spec := "fnTermPut", unfollowed := true, recurses := true, apart := false }
def FnTermPutSaid : Prop := fnTermPutRow.holds Try.pinned (OpenSpec.ofChange fnTermPutSpec)

/-- ITS FALSE NEIGHBOUR: 'it returns false'. Refute it at one input. -/
def fnTermPutWrong : ChangeSpec := { name := "fnTermPut", fn := fun _ => fun
  | [d] => { results := [.lit (.bool false)], args := [d] }
  | _ => none }
def FnTermPutWrongFalsely : Prop := fnTermPutRow.holds Try.pinned (OpenSpec.ofChange fnTermPutWrong)

/-- 'laws.FnTermPutTwice': WHATEVER THE INPUT: true; the input reads as it did. -/
def fnTermPutTwiceSpec : ChangeSpec := { name := "fnTermPutTwice", fn := fun _ => fun
  | [d] => { results := [.lit (.bool true)], args := [d] }
  | _ => none }
def fnTermPutTwiceRow : OpenClaim := { program := "ytebalmemncldlaa", sum := "7a527dc61b2a60dc3b529ffdbdd5d2f2ef688b1ab89c28b2e480358f050bb3c6", func := "loop.example/tipstaff/laws.FnTermPutTwice", spec := "fnTermPutTwice", unfollowed := true, recurses := true, apart := false }
def FnTermPutTwiceSaid : Prop := fnTermPutTwiceRow.holds Try.pinned (OpenSpec.ofChange fnTermPutTwiceSpec)

/-- ITS FALSE NEIGHBOUR: 'it returns false'. Refute it at one input. -/
def fnTermPutTwiceWrong : ChangeSpec := { name := "fnTermPutTwice", fn := fun _ => fun
  | [d] => { results := [.lit (.bool false)], args := [d] }
  | _ => none }
def FnTermPutTwiceWrongFalsely : Prop := fnTermPutTwiceRow.holds Try.pinned (OpenSpec.ofChange fnTermPutTwiceWrong)

/-- 'laws.FnTermPutSame': WHATEVER THE INPUT: true; the input reads as it did. -/
def fnTermPutSameSpec : ChangeSpec := { name := "fnTermPutSame", fn := fun _ => fun
  | [d] => { results := [.lit (.bool true)], args := [d] }
  | _ => none }
def fnTermPutSameRow : OpenClaim := { program := "ytebalmemncldlaa", sum := "7a527dc61b2a60dc3b529ffdbdd5d2f2ef688b1ab89c28b2e480358f050bb3c6", func := "loop.example/tipstaff/laws.FnTermPutSame", spec := "fnTermPutSame", unfollowed := true, recurses := true, apart := false }
def FnTermPutSameSaid : Prop := fnTermPutSameRow.holds Try.pinned (OpenSpec.ofChange fnTermPutSameSpec)

/-- ITS FALSE NEIGHBOUR: 'it returns false'. Refute it at one input. -/
def fnTermPutSameWrong : ChangeSpec := { name := "fnTermPutSame", fn := fun _ => fun
  | [d] => { results := [.lit (.bool false)], args := [d] }
  | _ => none }
def FnTermPutSameWrongFalsely : Prop := fnTermPutSameRow.holds Try.pinned (OpenSpec.ofChange fnTermPutSameWrong)

/-- 'laws.FnTermPutSize': WHATEVER THE INPUT: true; the input reads as it did. -/
def fnTermPutSizeSpec : ChangeSpec := { name := "fnTermPutSize", fn := fun _ => fun
  | [d] => { results := [.lit (.bool true)], args := [d] }
  | _ => none }
def fnTermPutSizeRow : OpenClaim := { program := "ytebalmemncldlaa", sum := "7a527dc61b2a60dc3b529ffdbdd5d2f2ef688b1ab89c28b2e480358f050bb3c6", func := "loop.example/tipstaff/laws.FnTermPutSize", spec := "fnTermPutSize", unfollowed := true, recurses := true, apart := false }
def FnTermPutSizeSaid : Prop := fnTermPutSizeRow.holds Try.pinned (OpenSpec.ofChange fnTermPutSizeSpec)

/-- ITS FALSE NEIGHBOUR: 'it returns false'. Refute it at one input. -/
def fnTermPutSizeWrong : ChangeSpec := { name := "fnTermPutSize", fn := fun _ => fun
  | [d] => { results := [.lit (.bool false)], args := [d] }
  | _ => none }
def FnTermPutSizeWrongFalsely : Prop := fnTermPutSizeRow.holds Try.pinned (OpenSpec.ofChange fnTermPutSizeWrong)

/-- 'laws.FnTermVars': WHATEVER THE INPUT: true; the input reads as it did. -/
def fnTermVarsSpec : ChangeSpec := { name := "fnTermVars", fn := fun _ => fun
  | [d] => { results := [.lit (.bool true)], args := [d] }
  | _ => none }
def fnTermVarsRow : OpenClaim := { program := "ytebalmemncldlaa", sum := "7a527dc61b2a60dc3b529ffdbdd5d2f2ef688b1ab89c28b2e480358f050bb3c6", func := "loop.example/tipstaff/laws.FnTermVars", spec := "fnTermVars", unfollowed := true, recurses := true, apart := false }
def FnTermVarsSaid : Prop := fnTermVarsRow.holds Try.pinned (OpenSpec.ofChange fnTermVarsSpec)

/-- ITS FALSE NEIGHBOUR: 'it returns false'. Refute it at one input. -/
def fnTermVarsWrong : ChangeSpec := { name := "fnTermVars", fn := fun _ => fun
  | [d] => { results := [.lit (.bool false)], args := [d] }
  | _ => none }
def FnTermVarsWrongFalsely : Prop := fnTermVarsRow.holds Try.pinned (OpenSpec.ofChange fnTermVarsWrong)

/-- 'laws.FnTermPutVars': WHATEVER THE INPUT: true; the input reads as it did. -/
def fnTermPutVarsSpec : ChangeSpec := { name := "fnTermPutVars", fn := fun _ => fun
  | [d] => { results := [.lit (.bool true)], args := [d] }
  | _ => none }
def fnTermPutVarsRow : OpenClaim := { program := "ytebalmemncldlaa", sum := "7a527dc61b2a60dc3b529ffdbdd5d2f2ef688b1ab89c28b2e480358f050bb3c6", func := "loop.example/tipstaff/laws.FnTermPutVars", spec := "fnTermPutVars", unfollowed := true, recurses := true, apart := false }
def FnTermPutVarsSaid : Prop := fnTermPutVarsRow.holds Try.pinned (OpenSpec.ofChange fnTermPutVarsSpec)

/-- ITS FALSE NEIGHBOUR: 'it returns false'. Refute it at one input. -/
def fnTermPutVarsWrong : ChangeSpec := { name := "fnTermPutVars", fn := fun _ => fun
  | [d] => { results := [.lit (.bool false)], args := [d] }
  | _ => none }
def FnTermPutVarsWrongFalsely : Prop := fnTermPutVarsRow.holds Try.pinned (OpenSpec.ofChange fnTermPutVarsWrong)

/-- 'laws.FnTermOne': WHATEVER THE INPUT: true; the input reads as it did. -/
def fnTermOneSpec : ChangeSpec := { name := "fnTermOne", fn := fun _ => fun
  | [d1, d2] => { results := [.lit (.bool true)], args := [d1, d2] }
  | _ => none }
def fnTermOneRow : OpenClaim := { program := "ytebalmemncldlaa", sum := "7a527dc61b2a60dc3b529ffdbdd5d2f2ef688b1ab89c28b2e480358f050bb3c6", func := "loop.example/tipstaff/laws.FnTermOne", spec := "fnTermOne", unfollowed := true, recurses := true, apart := false }
def FnTermOneSaid : Prop := fnTermOneRow.holds Try.pinned (OpenSpec.ofChange fnTermOneSpec)

/-- ITS FALSE NEIGHBOUR: 'it returns false'. Refute it at one input. -/
def fnTermOneWrong : ChangeSpec := { name := "fnTermOne", fn := fun _ => fun
  | [d1, d2] => { results := [.lit (.bool false)], args := [d1, d2] }
  | _ => none }
def FnTermOneWrongFalsely : Prop := fnTermOneRow.holds Try.pinned (OpenSpec.ofChange fnTermOneWrong)

/-- 'laws.FnTermParts': WHATEVER THE INPUT: true; the input reads as it did. -/
def fnTermPartsSpec : ChangeSpec := { name := "fnTermParts", fn := fun _ => fun
  | [d] => { results := [.lit (.bool true)], args := [d] }
  | _ => none }
def fnTermPartsRow : OpenClaim := { program := "ytebalmemncldlaa", sum := "7a527dc61b2a60dc3b529ffdbdd5d2f2ef688b1ab89c28b2e480358f050bb3c6", func := "loop.example/tipstaff/laws.FnTermParts", spec := "fnTermParts", recurses := true, apart := false }
def FnTermPartsSaid : Prop := fnTermPartsRow.holds Try.pinned (OpenSpec.ofChange fnTermPartsSpec)

/-- ITS FALSE NEIGHBOUR: 'it returns false'. Refute it at one input. -/
def fnTermPartsWrong : ChangeSpec := { name := "fnTermParts", fn := fun _ => fun
  | [d] => { results := [.lit (.bool false)], args := [d] }
  | _ => none }
def FnTermPartsWrongFalsely : Prop := fnTermPartsRow.holds Try.pinned (OpenSpec.ofChange fnTermPartsWrong)

/-- 'laws.FnTermSize': WHATEVER THE INPUT: true; the input reads as it did. -/
def fnTermSizeSpec : ChangeSpec := { name := "fnTermSize", fn := fun _ => fun
  | [d] => { results := [.lit (.bool true)], args := [d] }
  | _ => none }
def fnTermSizeRow : OpenClaim := { program := "ytebalmemncldlaa", sum := "7a527dc61b2a60dc3b529ffdbdd5d2f2ef688b1ab89c28b2e480358f050bb3c6", func := "loop.example/tipstaff/laws.FnTermSize", spec := "fnTermSize", unfollowed := true, recurses := true, apart := false }
def FnTermSizeSaid : Prop := fnTermSizeRow.holds Try.pinned (OpenSpec.ofChange fnTermSizeSpec)

/-- ITS FALSE NEIGHBOUR: 'it returns false'. Refute it at one input. -/
def fnTermSizeWrong : ChangeSpec := { name := "fnTermSize", fn := fun _ => fun
  | [d] => { results := [.lit (.bool false)], args := [d] }
  | _ => none }
def FnTermSizeWrongFalsely : Prop := fnTermSizeRow.holds Try.pinned (OpenSpec.ofChange fnTermSizeWrong)

/- THE SECOND FORM. 'bulk': how many values and letters a reading holds, each counted each time it is reached (what is shared counts as often as it is met; a slice's spare places count too). A statement '..UptoSaid' is the law's where the arguments, and the package variables that the reading takes, are together of bulk at most 1048576: NARROWER than '..Said'. Prove '..Said' where nothing that the law and all that it calls make is longer than what came in: it says more and counts as full. Else prove '..UptoSaid'. A law counts once. -/
mutual
def uptoBulk {H : Type} : DataW H → Nat
  | .lit (.string bytes) => bytes.length + 1
  | .lit _ => 1
  | .nil => 1
  | .ptr d => uptoBulk d + 1
  | .slice elems spare => uptoBulkAll elems + uptoBulkAll spare + 1
  | .agg parts => uptoBulkAll parts + 1
  | .iface _ d => uptoBulk d + 1
  | .map entries => uptoBulkEntries entries + 1
  | .held _ => 1
def uptoBulkAll {H : Type} : List (DataW H) → Nat
  | [] => 0
  | d :: r => uptoBulk d + uptoBulkAll r
def uptoBulkEntries {H : Type} : List (Lit × DataW H) → Nat
  | [] => 0
  | x :: r => uptoBulkEntry x + uptoBulkEntries r
def uptoBulkEntry {H : Type} : Lit × DataW H → Nat
  | (.string bytes, d) => bytes.length + uptoBulk d + 1
  | (_, d) => uptoBulk d + 1
 end
def uptoSmall : (H : Type) → List (DataW H) → Bool := fun _ ds => decide (uptoBulkAll ds ≤ 1048576)
def OpenSpec.upto (s : _root_.Go.ChangeSpec) : _root_.Go.OpenSpec := { _root_.Go.OpenSpec.ofChange s with cond := some uptoSmall }

/-- 'laws.FnTermAt', WHERE WHAT IT READS IS OF BULK AT MOST 1048576: true; the input reads as it did. -/
def fnTermAtUptoRow : OpenClaim := { program := "ytebalmemncldlaa", sum := "7a527dc61b2a60dc3b529ffdbdd5d2f2ef688b1ab89c28b2e480358f050bb3c6", func := "loop.example/tipstaff/laws.FnTermAt", spec := "fnTermAt", unfollowed := true, recurses := true, apart := false, narrowed := true }
def FnTermAtUptoSaid : Prop := fnTermAtUptoRow.holds Try.pinned (OpenSpec.upto fnTermAtSpec)

/-- 'laws.FnTermPut', WHERE WHAT IT READS IS OF BULK AT MOST 1048576: true; the input reads as it did. -/
def fnTermPutUptoRow : OpenClaim := { program := "ytebalmemncldlaa", sum := "7a527dc61b2a60dc3b529ffdbdd5d2f2ef688b1ab89c28b2e480358f050bb3c6", func := "loop.example/tipstaff/laws.FnTermPut", spec := "fnTermPut", unfollowed := true, recurses := true, apart := false, narrowed := true }
def FnTermPutUptoSaid : Prop := fnTermPutUptoRow.holds Try.pinned (OpenSpec.upto fnTermPutSpec)

/-- 'laws.FnTermPutTwice', WHERE WHAT IT READS IS OF BULK AT MOST 1048576: true; the input reads as it did. -/
def fnTermPutTwiceUptoRow : OpenClaim := { program := "ytebalmemncldlaa", sum := "7a527dc61b2a60dc3b529ffdbdd5d2f2ef688b1ab89c28b2e480358f050bb3c6", func := "loop.example/tipstaff/laws.FnTermPutTwice", spec := "fnTermPutTwice", unfollowed := true, recurses := true, apart := false, narrowed := true }
def FnTermPutTwiceUptoSaid : Prop := fnTermPutTwiceUptoRow.holds Try.pinned (OpenSpec.upto fnTermPutTwiceSpec)

/-- 'laws.FnTermPutSame', WHERE WHAT IT READS IS OF BULK AT MOST 1048576: true; the input reads as it did. -/
def fnTermPutSameUptoRow : OpenClaim := { program := "ytebalmemncldlaa", sum := "7a527dc61b2a60dc3b529ffdbdd5d2f2ef688b1ab89c28b2e480358f050bb3c6", func := "loop.example/tipstaff/laws.FnTermPutSame", spec := "fnTermPutSame", unfollowed := true, recurses := true, apart := false, narrowed := true }
def FnTermPutSameUptoSaid : Prop := fnTermPutSameUptoRow.holds Try.pinned (OpenSpec.upto fnTermPutSameSpec)

/-- 'laws.FnTermPutSize', WHERE WHAT IT READS IS OF BULK AT MOST 1048576: true; the input reads as it did. -/
def fnTermPutSizeUptoRow : OpenClaim := { program := "ytebalmemncldlaa", sum := "7a527dc61b2a60dc3b529ffdbdd5d2f2ef688b1ab89c28b2e480358f050bb3c6", func := "loop.example/tipstaff/laws.FnTermPutSize", spec := "fnTermPutSize", unfollowed := true, recurses := true, apart := false, narrowed := true }
def FnTermPutSizeUptoSaid : Prop := fnTermPutSizeUptoRow.holds Try.pinned (OpenSpec.upto fnTermPutSizeSpec)

/-- 'laws.FnTermVars', WHERE WHAT IT READS IS OF BULK AT MOST 1048576: true; the input reads as it did. -/
def fnTermVarsUptoRow : OpenClaim := { program := "ytebalmemncldlaa", sum := "7a527dc61b2a60dc3b529ffdbdd5d2f2ef688b1ab89c28b2e480358f050bb3c6", func := "loop.example/tipstaff/laws.FnTermVars", spec := "fnTermVars", unfollowed := true, recurses := true, apart := false, narrowed := true }
def FnTermVarsUptoSaid : Prop := fnTermVarsUptoRow.holds Try.pinned (OpenSpec.upto fnTermVarsSpec)

/-- 'laws.FnTermPutVars', WHERE WHAT IT READS IS OF BULK AT MOST 1048576: true; the input reads as it did. -/
def fnTermPutVarsUptoRow : OpenClaim := { program := "ytebalmemncldlaa", sum := "7a527dc61b2a60dc3b529ffdbdd5d2f2ef688b1ab89c28b2e480358f050bb3c6", func := "loop.example/tipstaff/laws.FnTermPutVars", spec := "fnTermPutVars", unfollowed := true, recurses := true, apart := false, narrowed := true }
def FnTermPutVarsUptoSaid : Prop := fnTermPutVarsUptoRow.holds Try.pinned (OpenSpec.upto fnTermPutVarsSpec)

/-- 'laws.FnTermOne', WHERE WHAT IT READS IS OF BULK AT MOST 1048576: true; the input reads as it did. -/
def fnTermOneUptoRow : OpenClaim := { program := "ytebalmemncldlaa", sum := "7a527dc61b2a60dc3b529ffdbdd5d2f2ef688b1ab89c28b2e480358f050bb3c6", func := "loop.example/tipstaff/laws.FnTermOne", spec := "fnTermOne", unfollowed := true, recurses := true, apart := false, narrowed := true }
def FnTermOneUptoSaid : Prop := fnTermOneUptoRow.holds Try.pinned (OpenSpec.upto fnTermOneSpec)

/-- 'laws.FnTermParts', WHERE WHAT IT READS IS OF BULK AT MOST 1048576: true; the input reads as it did. -/
def fnTermPartsUptoRow : OpenClaim := { program := "ytebalmemncldlaa", sum := "7a527dc61b2a60dc3b529ffdbdd5d2f2ef688b1ab89c28b2e480358f050bb3c6", func := "loop.example/tipstaff/laws.FnTermParts", spec := "fnTermParts", recurses := true, apart := false, narrowed := true }
def FnTermPartsUptoSaid : Prop := fnTermPartsUptoRow.holds Try.pinned (OpenSpec.upto fnTermPartsSpec)

/-- 'laws.FnTermSize', WHERE WHAT IT READS IS OF BULK AT MOST 1048576: true; the input reads as it did. -/
def fnTermSizeUptoRow : OpenClaim := { program := "ytebalmemncldlaa", sum := "7a527dc61b2a60dc3b529ffdbdd5d2f2ef688b1ab89c28b2e480358f050bb3c6", func := "loop.example/tipstaff/laws.FnTermSize", spec := "fnTermSize", unfollowed := true, recurses := true, apart := false, narrowed := true }
def FnTermSizeUptoSaid : Prop := fnTermSizeUptoRow.holds Try.pinned (OpenSpec.upto fnTermSizeSpec)

end Rows
end Go.Proofs.Ytebalmemncldlaa
