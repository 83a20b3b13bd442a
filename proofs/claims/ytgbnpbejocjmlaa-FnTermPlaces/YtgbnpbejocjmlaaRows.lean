/-
  No cell of these rows narrows 'for every input' (looked for: loops, veiled, ifaces, maps, wideKeys, modest, calm, conditions, laid).
  DERIVED. THE GIVEN ROWS OF THIS SEAT. 10 by the template 'for every input the law returns true; each argument reads behind the call as it read before'; 0 by the template 'total and deterministic' (their statements: YtgbnpbejocjmlaaTotals.lean).
  GIVEN WITH THE SEED: the statements are not yours to turn. If you find one false, say at which input.
  Laid BY PROGRAM, IN A SANDBOX (cutbox-rows.mjs): the forced cells as the released guide's own fill.sh prints them over the translation 82e80f56f0df433a… (all of the seat's roots in one cut). By AI agents, Wed Nov 11 2026. No macro, syntax, notation, axiom, sorry.
-/
import Derived.Test.YtgbnpbejocjmlaaChecked
import GoSem.Claim
import GoSem.ClaimJoined
import GoSem.ClaimMapViews
import Derived.JoinedTies
import Derived.KernelRfl
namespace Go.Proofs.Ytgbnpbejocjmlaa
/- THE CELL 'sum', in the pinned program and in every row, IS THE sha256 OF THE DUMP (.gsa) THAT YtgbnpbejocjmlaaProg.lean LOADS. Nothing in Lean hashes anything: it is a label: what it is worth is what the hold of that sum in a sandbox is worth. -/
noncomputable def Try.pinned : Pinned := { name := "ytgbnpbejocjmlaa", sum := "82e80f56f0df433ac88bf73001006779edf8c9e92c25457be93367efd85235c6", checked := Try.checked }
namespace Rows
def none {H : Type} : Left H := { results := [], args := [] }

/-- 'laws.FnTermSize': WHATEVER THE INPUT: true; the input reads as it did. -/
def fnTermSizeSpec : ChangeSpec := { name := "fnTermSize", fn := fun _ => fun
  | [d] => { results := [.lit (.bool true)], args := [d] }
  | _ => none }
def fnTermSizeRow : OpenClaim := { program := "ytgbnpbejocjmlaa", sum := "82e80f56f0df433ac88bf73001006779edf8c9e92c25457be93367efd85235c6", func := "loop.example/tipstaff/laws.FnTermSize", spec := "fnTermSize", unfollowed := true, recurses := true, apart := false }
def FnTermSizeSaid : Prop := fnTermSizeRow.holds Try.pinned (OpenSpec.ofChange fnTermSizeSpec)

/-- ITS FALSE NEIGHBOUR: 'it returns false'. Refute it at one input. -/
def fnTermSizeWrong : ChangeSpec := { name := "fnTermSize", fn := fun _ => fun
  | [d] => { results := [.lit (.bool false)], args := [d] }
  | _ => none }
def FnTermSizeWrongFalsely : Prop := fnTermSizeRow.holds Try.pinned (OpenSpec.ofChange fnTermSizeWrong)

/-- 'laws.FnTermPlaces': WHATEVER THE INPUT: true; the input reads as it did. -/
def fnTermPlacesSpec : ChangeSpec := { name := "fnTermPlaces", fn := fun _ => fun
  | [d] => { results := [.lit (.bool true)], args := [d] }
  | _ => none }
def fnTermPlacesRow : OpenClaim := { program := "ytgbnpbejocjmlaa", sum := "82e80f56f0df433ac88bf73001006779edf8c9e92c25457be93367efd85235c6", func := "loop.example/tipstaff/laws.FnTermPlaces", spec := "fnTermPlaces", unfollowed := true, recurses := true, apart := false }
def FnTermPlacesSaid : Prop := fnTermPlacesRow.holds Try.pinned (OpenSpec.ofChange fnTermPlacesSpec)

/-- ITS FALSE NEIGHBOUR: 'it returns false'. Refute it at one input. -/
def fnTermPlacesWrong : ChangeSpec := { name := "fnTermPlaces", fn := fun _ => fun
  | [d] => { results := [.lit (.bool false)], args := [d] }
  | _ => none }
def FnTermPlacesWrongFalsely : Prop := fnTermPlacesRow.holds Try.pinned (OpenSpec.ofChange fnTermPlacesWrong)

/-- 'laws.FnTermAt': WHATEVER THE INPUT: true; the input reads as it did. -/
def fnTermAtSpec : ChangeSpec := { name := "fnTermAt", fn := fun _ => fun
  | [d1, d2] => { results := [.lit (.bool true)], args := [d1, d2] }
  | _ => none }
def fnTermAtRow : OpenClaim := { program := "ytgbnpbejocjmlaa", sum := "82e80f56f0df433ac88bf73001006779edf8c9e92c25457be93367efd85235c6", func := "loop.example/tipstaff/laws.FnTermAt", spec := "fnTermAt", unfollowed := true, recurses := true, apart := false }
def FnTermAtSaid : Prop := fnTermAtRow.holds Try.pinned (OpenSpec.ofChange fnTermAtSpec)

/-- ITS FALSE NEIGHBOUR: 'it returns false'. Refute it at one input. -/
def fnTermAtWrong : ChangeSpec := { name := "fnTermAt", fn := fun _ => fun
  | [d1, d2] => { results := [.lit (.bool false)], args := [d1, d2] }
  | _ => none }
def FnTermAtWrongFalsely : Prop := fnTermAtRow.holds Try.pinned (OpenSpec.ofChange fnTermAtWrong)

/-- 'laws.FnTermPut': WHATEVER THE INPUT: true; the input reads as it did. -/
def fnTermPutSpec : ChangeSpec := { name := "fnTermPut", fn := fun _ => fun
  | [d] => { results := [.lit (.bool true)], args := [d] }
  | _ => none }
def fnTermPutRow : OpenClaim := { program := "ytgbnpbejocjmlaa", sum := "82e80f56f0df433ac88bf73001006779edf8c9e92c25457be93367efd85235c6", func := "loop.example/tipstaff/laws.FnTermPut", spec := "fnTermPut", unfollowed := true, recurses := true, apart := false }
def FnTermPutSaid : Prop := fnTermPutRow.holds Try.pinned (OpenSpec.ofChange fnTermPutSpec)

/-- ITS FALSE NEIGHBOUR: 'it returns false'. Refute it at one input. -/
def fnTermPutWrong : ChangeSpec := { name := "fnTermPut", fn := fun _ => fun
  | [d] => { results := [.lit (.bool false)], args := [d] }
  | _ => none }
def FnTermPutWrongFalsely : Prop := fnTermPutRow.holds Try.pinned (OpenSpec.ofChange fnTermPutWrong)

/-- 'laws.FnTermPutTwice': WHATEVER THE INPUT: true; the input reads as it did. -/
def fnTermPutTwiceSpec : ChangeSpec := { name := "fnTermPutTwice", fn := fun _ => fun
  | [d] => { results := [.lit (.bool true)], args := [d] }
  | _ => none }
def fnTermPutTwiceRow : OpenClaim := { program := "ytgbnpbejocjmlaa", sum := "82e80f56f0df433ac88bf73001006779edf8c9e92c25457be93367efd85235c6", func := "loop.example/tipstaff/laws.FnTermPutTwice", spec := "fnTermPutTwice", unfollowed := true, recurses := true, apart := false }
def FnTermPutTwiceSaid : Prop := fnTermPutTwiceRow.holds Try.pinned (OpenSpec.ofChange fnTermPutTwiceSpec)

/-- ITS FALSE NEIGHBOUR: 'it returns false'. Refute it at one input. -/
def fnTermPutTwiceWrong : ChangeSpec := { name := "fnTermPutTwice", fn := fun _ => fun
  | [d] => { results := [.lit (.bool false)], args := [d] }
  | _ => none }
def FnTermPutTwiceWrongFalsely : Prop := fnTermPutTwiceRow.holds Try.pinned (OpenSpec.ofChange fnTermPutTwiceWrong)

/-- 'laws.FnTermPutSame': WHATEVER THE INPUT: true; the input reads as it did. -/
def fnTermPutSameSpec : ChangeSpec := { name := "fnTermPutSame", fn := fun _ => fun
  | [d] => { results := [.lit (.bool true)], args := [d] }
  | _ => none }
def fnTermPutSameRow : OpenClaim := { program := "ytgbnpbejocjmlaa", sum := "82e80f56f0df433ac88bf73001006779edf8c9e92c25457be93367efd85235c6", func := "loop.example/tipstaff/laws.FnTermPutSame", spec := "fnTermPutSame", unfollowed := true, recurses := true, apart := false }
def FnTermPutSameSaid : Prop := fnTermPutSameRow.holds Try.pinned (OpenSpec.ofChange fnTermPutSameSpec)

/-- ITS FALSE NEIGHBOUR: 'it returns false'. Refute it at one input. -/
def fnTermPutSameWrong : ChangeSpec := { name := "fnTermPutSame", fn := fun _ => fun
  | [d] => { results := [.lit (.bool false)], args := [d] }
  | _ => none }
def FnTermPutSameWrongFalsely : Prop := fnTermPutSameRow.holds Try.pinned (OpenSpec.ofChange fnTermPutSameWrong)

/-- 'laws.FnTermVars': WHATEVER THE INPUT: true; the input reads as it did. -/
def fnTermVarsSpec : ChangeSpec := { name := "fnTermVars", fn := fun _ => fun
  | [d] => { results := [.lit (.bool true)], args := [d] }
  | _ => none }
def fnTermVarsRow : OpenClaim := { program := "ytgbnpbejocjmlaa", sum := "82e80f56f0df433ac88bf73001006779edf8c9e92c25457be93367efd85235c6", func := "loop.example/tipstaff/laws.FnTermVars", spec := "fnTermVars", unfollowed := true, recurses := true, apart := false }
def FnTermVarsSaid : Prop := fnTermVarsRow.holds Try.pinned (OpenSpec.ofChange fnTermVarsSpec)

/-- ITS FALSE NEIGHBOUR: 'it returns false'. Refute it at one input. -/
def fnTermVarsWrong : ChangeSpec := { name := "fnTermVars", fn := fun _ => fun
  | [d] => { results := [.lit (.bool false)], args := [d] }
  | _ => none }
def FnTermVarsWrongFalsely : Prop := fnTermVarsRow.holds Try.pinned (OpenSpec.ofChange fnTermVarsWrong)

/-- 'laws.FnTermOne': WHATEVER THE INPUT: true; the input reads as it did. -/
def fnTermOneSpec : ChangeSpec := { name := "fnTermOne", fn := fun _ => fun
  | [d1, d2] => { results := [.lit (.bool true)], args := [d1, d2] }
  | _ => none }
def fnTermOneRow : OpenClaim := { program := "ytgbnpbejocjmlaa", sum := "82e80f56f0df433ac88bf73001006779edf8c9e92c25457be93367efd85235c6", func := "loop.example/tipstaff/laws.FnTermOne", spec := "fnTermOne", unfollowed := true, recurses := true, apart := false }
def FnTermOneSaid : Prop := fnTermOneRow.holds Try.pinned (OpenSpec.ofChange fnTermOneSpec)

/-- ITS FALSE NEIGHBOUR: 'it returns false'. Refute it at one input. -/
def fnTermOneWrong : ChangeSpec := { name := "fnTermOne", fn := fun _ => fun
  | [d1, d2] => { results := [.lit (.bool false)], args := [d1, d2] }
  | _ => none }
def FnTermOneWrongFalsely : Prop := fnTermOneRow.holds Try.pinned (OpenSpec.ofChange fnTermOneWrong)

/-- 'laws.FnTermParts': WHATEVER THE INPUT: true; the input reads as it did. -/
def fnTermPartsSpec : ChangeSpec := { name := "fnTermParts", fn := fun _ => fun
  | [d] => { results := [.lit (.bool true)], args := [d] }
  | _ => none }
def fnTermPartsRow : OpenClaim := { program := "ytgbnpbejocjmlaa", sum := "82e80f56f0df433ac88bf73001006779edf8c9e92c25457be93367efd85235c6", func := "loop.example/tipstaff/laws.FnTermParts", spec := "fnTermParts", recurses := true, apart := false }
def FnTermPartsSaid : Prop := fnTermPartsRow.holds Try.pinned (OpenSpec.ofChange fnTermPartsSpec)

/-- ITS FALSE NEIGHBOUR: 'it returns false'. Refute it at one input. -/
def fnTermPartsWrong : ChangeSpec := { name := "fnTermParts", fn := fun _ => fun
  | [d] => { results := [.lit (.bool false)], args := [d] }
  | _ => none }
def FnTermPartsWrongFalsely : Prop := fnTermPartsRow.holds Try.pinned (OpenSpec.ofChange fnTermPartsWrong)

/-- 'laws.FnTermKids': WHATEVER THE INPUT: true; the input reads as it did. -/
def fnTermKidsSpec : ChangeSpec := { name := "fnTermKids", fn := fun _ => fun
  | [d] => { results := [.lit (.bool true)], args := [d] }
  | _ => none }
def fnTermKidsRow : OpenClaim := { program := "ytgbnpbejocjmlaa", sum := "82e80f56f0df433ac88bf73001006779edf8c9e92c25457be93367efd85235c6", func := "loop.example/tipstaff/laws.FnTermKids", spec := "fnTermKids", recurses := true, apart := false }
def FnTermKidsSaid : Prop := fnTermKidsRow.holds Try.pinned (OpenSpec.ofChange fnTermKidsSpec)

/-- ITS FALSE NEIGHBOUR: 'it returns false'. Refute it at one input. -/
def fnTermKidsWrong : ChangeSpec := { name := "fnTermKids", fn := fun _ => fun
  | [d] => { results := [.lit (.bool false)], args := [d] }
  | _ => none }
def FnTermKidsWrongFalsely : Prop := fnTermKidsRow.holds Try.pinned (OpenSpec.ofChange fnTermKidsWrong)

/- THE SECOND FORM. 'bulk': how many values and letters a reading holds, each counted each time it is reached (what is shared counts as often as it is met; a slice's spare places count too). A statement '..UptoSaid' is the law's where the arguments, and the package variables that the reading takes, are together of bulk at most 1048576: NARROWER than '..Said'. Prove '..Said' where nothing that the law and all that it calls make is longer than what came in: it says more and counts as full. Else prove '..UptoSaid'. A law counts once. -/
mutual
def uptoBulk {H : Type} : DataW H → Nat
  | .lit (.string bytes) => bytes.length + 1
  | .lit _ => 1
  | .nil => 1
  | .ptr d => uptoBulk d + 1
  | .slice elems spare => uptoBulkAll elems + uptoBulkAll spare + 1
  | .agg parts => uptoBulkAll parts + 1
  | .iface _ d => uptoBulk d + 1
  | .map entries => uptoBulkEntries entries + 1
  | .held _ => 1
def uptoBulkAll {H : Type} : List (DataW H) → Nat
  | [] => 0
  | d :: r => uptoBulk d + uptoBulkAll r
def uptoBulkEntries {H : Type} : List (Lit × DataW H) → Nat
  | [] => 0
  | x :: r => uptoBulkEntry x + uptoBulkEntries r
def uptoBulkEntry {H : Type} : Lit × DataW H → Nat
  | (.string bytes, d) => bytes.length + uptoBulk d + 1
  | (_, d) => uptoBulk d + 1
 end
def uptoSmall : (H : Type) → List (DataW H) → Bool := fun _ ds => decide (uptoBulkAll ds ≤ 1048576)
def OpenSpec.upto (s : _root_.Go.ChangeSpec) : _root_.Go.OpenSpec := { _root_.Go.OpenSpec.ofChange s with cond := some uptoSmall }

/-- 'laws.FnTermSize', WHERE WHAT IT READS IS OF BULK AT MOST 1048576: true; the input reads as it did. -/
def fnTermSizeUptoRow : OpenClaim := { program := "ytgbnpbejocjmlaa", sum := "82e80f56f0df433ac88bf73001006779edf8c9e92c25457be93367efd85235c6", func := "loop.example/tipstaff/laws.FnTermSize", spec := "fnTermSize", unfollowed := true, recurses := true, apart := false, narrowed := true }
def FnTermSizeUptoSaid : Prop := fnTermSizeUptoRow.holds Try.pinned (OpenSpec.upto fnTermSizeSpec)

/-- 'laws.FnTermPlaces', WHERE WHAT IT READS IS OF BULK AT MOST 1048576: true; the input reads as it did. -/
def fnTermPlacesUptoRow : OpenClaim := { program := "ytgbnpbejocjmlaa", sum := "82e80f56f0df433ac88bf73001006779edf8c9e92c25457be93367efd85235c6", func := "loop.example/tipstaff/laws.FnTermPlaces", spec := "fnTermPlaces", unfollowed := true, recurses := true, apart := false, narrowed := true }
def FnTermPlacesUptoSaid : Prop := fnTermPlacesUptoRow.holds Try.pinned (OpenSpec.upto fnTermPlacesSpec)

/-- 'laws.FnTermAt', WHERE WHAT IT READS IS OF BULK AT MOST 1048576: true; the input reads as it did. -/
def fnTermAtUptoRow : OpenClaim := { program := "ytgbnpbejocjmlaa", sum := "82e80f56f0df433ac88bf73001006779edf8c9e92c25457be93367efd85235c6", func := "loop.example/tipstaff/laws.FnTermAt", spec := "fnTermAt", unfollowed := true, recurses := true, apart := false, narrowed := true }
def FnTermAtUptoSaid : Prop := fnTermAtUptoRow.holds Try.pinned (OpenSpec.upto fnTermAtSpec)

/-- 'laws.FnTermPut', WHERE WHAT IT READS IS OF BULK AT MOST 1048576: true; the input reads as it did. -/
def fnTermPutUptoRow : OpenClaim := { program := "ytgbnpbejocjmlaa", sum := "82e80f56f0df433ac88bf73001006779edf8c9e92c25457be93367efd85235c6", func := "loop.example/tipstaff/laws.FnTermPut", spec := "fnTermPut", unfollowed := true, recurses := true, apart := false, narrowed := true }
def FnTermPutUptoSaid : Prop := fnTermPutUptoRow.holds Try.pinned (OpenSpec.upto fnTermPutSpec)

/-- 'laws.FnTermPutTwice', WHERE WHAT IT READS IS OF BULK AT MOST 1048576: true; the input reads as it did. -/
def fnTermPutTwiceUptoRow : OpenClaim := { program := "ytgbnpbejocjmlaa", sum := "82e80f56f0df433ac88bf73001006779edf8c9e92c25457be93367efd85235c6", func := "loop.example/tipstaff/laws.FnTermPutTwice", spec := "fnTermPutTwice", unfollowed := true, recurses := true, apart := false, narrowed := true }
def FnTermPutTwiceUptoSaid : Prop := fnTermPutTwiceUptoRow.holds Try.pinned (OpenSpec.upto fnTermPutTwiceSpec)

/-- 'laws.FnTermPutSame', WHERE WHAT IT READS IS OF BULK AT MOST 1048576: true; the input reads as it did. -/
def fnTermPutSameUptoRow : OpenClaim := { program := "ytgbnpbejocjmlaa", sum := "82e80f56f0df433ac88bf73001006779edf8c9e92c25457be93367efd85235c6", func := "loop.example/tipstaff/laws.FnTermPutSame", spec := "fnTermPutSame", unfollowed := true, recurses := true, apart := false, narrowed := true }
def FnTermPutSameUptoSaid : Prop := fnTermPutSameUptoRow.holds Try.pinned (OpenSpec.upto fnTermPutSameSpec)

/-- 'laws.FnTermVars', WHERE WHAT IT READS IS OF BULK AT MOST 1048576: true; the input reads as it did. -/
def fnTermVarsUptoRow : OpenClaim := { program := "ytgbnpbejocjmlaa", sum := "82e80f56f0df433ac88bf73001006779edf8c9e92c25457be93367efd85235c6", func := "loop.example/tipstaff/laws.FnTermVars", spec := "fnTermVars", unfollowed := true, recurses := true, apart := false, narrowed := true }
def FnTermVarsUptoSaid : Prop := fnTermVarsUptoRow.holds Try.pinned (OpenSpec.upto fnTermVarsSpec)

/-- 'laws.FnTermOne', WHERE WHAT IT READS IS OF BULK AT MOST 1048576: true; the input reads as it did. -/
def fnTermOneUptoRow : OpenClaim := { program := "ytgbnpbejocjmlaa", sum := "82e80f56f0df433ac88bf73001006779edf8c9e92c25457be93367efd85235c6", func := "loop.example/tipstaff/laws.FnTermOne", spec := "fnTermOne", unfollowed := true, recurses := true, apart := false, narrowed := true }
def FnTermOneUptoSaid : Prop := fnTermOneUptoRow.holds Try.pinned (OpenSpec.upto fnTermOneSpec)

/-- 'laws.FnTermParts', WHERE WHAT IT READS IS OF BULK AT MOST 1048576: true; the input reads as it did. -/
def fnTermPartsUptoRow : OpenClaim := { program := "ytgbnpbejocjmlaa", sum := "82e80f56f0df433ac88bf73001006779edf8c9e92c25457be93367efd85235c6", func := "loop.example/tipstaff/laws.FnTermParts", spec := "fnTermParts", recurses := true, apart := false, narrowed := true }
def FnTermPartsUptoSaid : Prop := fnTermPartsUptoRow.holds Try.pinned (OpenSpec.upto fnTermPartsSpec)

/-- 'laws.FnTermKids', WHERE WHAT IT READS IS OF BULK AT MOST 1048576: true; the input reads as it did. -/
def fnTermKidsUptoRow : OpenClaim := { program := "ytgbnpbejocjmlaa", sum := "82e80f56f0df433ac88bf73001006779edf8c9e92c25457be93367efd85235c6", func := "loop.example/tipstaff/laws.FnTermKids", spec := "fnTermKids", recurses := true, apart := false, narrowed := true }
def FnTermKidsUptoSaid : Prop := fnTermKidsUptoRow.holds Try.pinned (OpenSpec.upto fnTermKidsSpec)

end Rows
end Go.Proofs.Ytgbnpbejocjmlaa
