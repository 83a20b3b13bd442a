/-
  No cell of these rows narrows 'for every input' (looked for: loops, veiled, ifaces, maps, wideKeys, modest, calm, conditions, laid).
  DERIVED. THE GIVEN ROWS OF THIS SEAT. 6 by the template 'for every input the law returns true; each argument reads behind the call as it read before'; 0 by the template 'total and deterministic' (their statements: YtlaaihnokoeliaaTotals.lean).
  GIVEN WITH THE SEED: the statements are not yours to turn. If you find one false, say at which input.
  Laid BY PROGRAM, IN A SANDBOX (cutbox-rows.mjs): the forced cells as the released guide's own fill.sh prints them over the translation d924e93b59754858… (all of the seat's roots in one cut). By AI agents, Wed Nov 11 2026. No macro, syntax, notation, axiom, sorry.
-/
import Derived.Test.YtlaaihnokoeliaaChecked
import GoSem.Claim
import GoSem.ClaimJoined
import GoSem.ClaimMapViews
import Derived.JoinedTies
import Derived.KernelRfl
namespace Go.Proofs.Ytlaaihnokoeliaa
/- THE CELL 'sum', in the pinned program and in every row, IS THE sha256 OF THE DUMP (.gsa) THAT YtlaaihnokoeliaaProg.lean LOADS. Nothing in Lean hashes anything: it is a label: what it is worth is what the hold of that sum in a sandbox is worth. -/
noncomputable def Try.pinned : Pinned := { name := "ytlaaihnokoeliaa", sum := "d924e93b5975485877269aadd986255b4138b803c042148ba897592dd00bd6df", checked := Try.checked }
namespace Rows
def none {H : Type} : Left H := { results := [], args := [] }

/-- 'laws.FnMatchLess': WHATEVER THE INPUT: true; the input reads as it did. -/
def fnMatchLessSpec : ChangeSpec := { name := "fnMatchLess", fn := fun _ => fun
  | [d] => { results := [.lit (.bool true)], args := [d] }
  | _ => none }
def fnMatchLessRow : OpenClaim := { program := "ytlaaihnokoeliaa", sum := "d924e93b5975485877269aadd986255b4138b803c042148ba897592dd00bd6df", func := "loop.example/tipstaff/laws.FnMatchLess", spec := "fnMatchLess", unfollowed := true, recurses := true, apart := false }
def FnMatchLessSaid : Prop := fnMatchLessRow.holds Try.pinned (OpenSpec.ofChange fnMatchLessSpec)

/-- ITS FALSE NEIGHBOUR: 'it returns false'. Refute it at one input. -/
def fnMatchLessWrong : ChangeSpec := { name := "fnMatchLess", fn := fun _ => fun
  | [d] => { results := [.lit (.bool false)], args := [d] }
  | _ => none }
def FnMatchLessWrongFalsely : Prop := fnMatchLessRow.holds Try.pinned (OpenSpec.ofChange fnMatchLessWrong)

/-- 'laws.FnMatchMade': WHATEVER THE INPUT: true; the input reads as it did. -/
def fnMatchMadeSpec : ChangeSpec := { name := "fnMatchMade", fn := fun _ => fun
  | [d] => { results := [.lit (.bool true)], args := [d] }
  | _ => none }
def fnMatchMadeRow : OpenClaim := { program := "ytlaaihnokoeliaa", sum := "d924e93b5975485877269aadd986255b4138b803c042148ba897592dd00bd6df", func := "loop.example/tipstaff/laws.FnMatchMade", spec := "fnMatchMade", unfollowed := true, recurses := true, apart := false }
def FnMatchMadeSaid : Prop := fnMatchMadeRow.holds Try.pinned (OpenSpec.ofChange fnMatchMadeSpec)

/-- ITS FALSE NEIGHBOUR: 'it returns false'. Refute it at one input. -/
def fnMatchMadeWrong : ChangeSpec := { name := "fnMatchMade", fn := fun _ => fun
  | [d] => { results := [.lit (.bool false)], args := [d] }
  | _ => none }
def FnMatchMadeWrongFalsely : Prop := fnMatchMadeRow.holds Try.pinned (OpenSpec.ofChange fnMatchMadeWrong)

/-- 'laws.FnMatchOf': WHATEVER THE INPUT: true; the input reads as it did. -/
def fnMatchOfSpec : ChangeSpec := { name := "fnMatchOf", fn := fun _ => fun
  | [d] => { results := [.lit (.bool true)], args := [d] }
  | _ => none }
def fnMatchOfRow : OpenClaim := { program := "ytlaaihnokoeliaa", sum := "d924e93b5975485877269aadd986255b4138b803c042148ba897592dd00bd6df", func := "loop.example/tipstaff/laws.FnMatchOf", spec := "fnMatchOf", unfollowed := true, recurses := true, apart := false }
def FnMatchOfSaid : Prop := fnMatchOfRow.holds Try.pinned (OpenSpec.ofChange fnMatchOfSpec)

/-- ITS FALSE NEIGHBOUR: 'it returns false'. Refute it at one input. -/
def fnMatchOfWrong : ChangeSpec := { name := "fnMatchOf", fn := fun _ => fun
  | [d] => { results := [.lit (.bool false)], args := [d] }
  | _ => none }
def FnMatchOfWrongFalsely : Prop := fnMatchOfRow.holds Try.pinned (OpenSpec.ofChange fnMatchOfWrong)

/-- 'laws.FnMatchParts': WHATEVER THE INPUT: true; the input reads as it did. -/
def fnMatchPartsSpec : ChangeSpec := { name := "fnMatchParts", fn := fun _ => fun
  | [d] => { results := [.lit (.bool true)], args := [d] }
  | _ => none }
def fnMatchPartsRow : OpenClaim := { program := "ytlaaihnokoeliaa", sum := "d924e93b5975485877269aadd986255b4138b803c042148ba897592dd00bd6df", func := "loop.example/tipstaff/laws.FnMatchParts", spec := "fnMatchParts", unfollowed := true, recurses := true, apart := false }
def FnMatchPartsSaid : Prop := fnMatchPartsRow.holds Try.pinned (OpenSpec.ofChange fnMatchPartsSpec)

/-- ITS FALSE NEIGHBOUR: 'it returns false'. Refute it at one input. -/
def fnMatchPartsWrong : ChangeSpec := { name := "fnMatchParts", fn := fun _ => fun
  | [d] => { results := [.lit (.bool false)], args := [d] }
  | _ => none }
def FnMatchPartsWrongFalsely : Prop := fnMatchPartsRow.holds Try.pinned (OpenSpec.ofChange fnMatchPartsWrong)

/-- 'laws.FnMatchSelf': WHATEVER THE INPUT: true; the input reads as it did. -/
def fnMatchSelfSpec : ChangeSpec := { name := "fnMatchSelf", fn := fun _ => fun
  | [d] => { results := [.lit (.bool true)], args := [d] }
  | _ => none }
def fnMatchSelfRow : OpenClaim := { program := "ytlaaihnokoeliaa", sum := "d924e93b5975485877269aadd986255b4138b803c042148ba897592dd00bd6df", func := "loop.example/tipstaff/laws.FnMatchSelf", spec := "fnMatchSelf", unfollowed := true, recurses := true, apart := false }
def FnMatchSelfSaid : Prop := fnMatchSelfRow.holds Try.pinned (OpenSpec.ofChange fnMatchSelfSpec)

/-- ITS FALSE NEIGHBOUR: 'it returns false'. Refute it at one input. -/
def fnMatchSelfWrong : ChangeSpec := { name := "fnMatchSelf", fn := fun _ => fun
  | [d] => { results := [.lit (.bool false)], args := [d] }
  | _ => none }
def FnMatchSelfWrongFalsely : Prop := fnMatchSelfRow.holds Try.pinned (OpenSpec.ofChange fnMatchSelfWrong)

/-- 'laws.FnMatchThrough': WHATEVER THE INPUT: true; the input reads as it did. -/
def fnMatchThroughSpec : ChangeSpec := { name := "fnMatchThrough", fn := fun _ => fun
  | [d1, d2] => { results := [.lit (.bool true)], args := [d1, d2] }
  | _ => none }
def fnMatchThroughRow : OpenClaim := { program := "ytlaaihnokoeliaa", sum := "d924e93b5975485877269aadd986255b4138b803c042148ba897592dd00bd6df", func := "loop.example/tipstaff/laws.FnMatchThrough", spec := "fnMatchThrough", unfollowed := true, recurses := true, apart := false }
def FnMatchThroughSaid : Prop := fnMatchThroughRow.holds Try.pinned (OpenSpec.ofChange fnMatchThroughSpec)

/-- ITS FALSE NEIGHBOUR: 'it returns false'. Refute it at one input. -/
def fnMatchThroughWrong : ChangeSpec := { name := "fnMatchThrough", fn := fun _ => fun
  | [d1, d2] => { results := [.lit (.bool false)], args := [d1, d2] }
  | _ => none }
def FnMatchThroughWrongFalsely : Prop := fnMatchThroughRow.holds Try.pinned (OpenSpec.ofChange fnMatchThroughWrong)

/- THE SECOND FORM. 'bulk': how many values and letters a reading holds, each counted each time it is reached (what is shared counts as often as it is met; a slice's spare places count too). A statement '..UptoSaid' is the law's where the arguments, and the package variables that the reading takes, are together of bulk at most 1048576: NARROWER than '..Said'. Prove '..Said' where nothing that the law and all that it calls make is longer than what came in: it says more and counts as full. Else prove '..UptoSaid'. A law counts once. -/
mutual
def uptoBulk {H : Type} : DataW H → Nat
  | .lit (.string bytes) => bytes.length + 1
  | .lit _ => 1
  | .nil => 1
  | .ptr d => uptoBulk d + 1
  | .slice elems spare => uptoBulkAll elems + uptoBulkAll spare + 1
  | .agg parts => uptoBulkAll parts + 1
  | .iface _ d => uptoBulk d + 1
  | .map entries => uptoBulkEntries entries + 1
  | .held _ => 1
def uptoBulkAll {H : Type} : List (DataW H) → Nat
  | [] => 0
  | d :: r => uptoBulk d + uptoBulkAll r
def uptoBulkEntries {H : Type} : List (Lit × DataW H) → Nat
  | [] => 0
  | x :: r => uptoBulkEntry x + uptoBulkEntries r
def uptoBulkEntry {H : Type} : Lit × DataW H → Nat
  | (.string bytes, d) => bytes.length + uptoBulk d + 1
  | (_, d) => uptoBulk d + 1
 end
def uptoSmall : (H : Type) → List (DataW H) → Bool := fun _ ds => decide (uptoBulkAll ds ≤ 1048576)
def OpenSpec.upto (s : _root_.Go.ChangeSpec) : _root_.Go.OpenSpec := { _root_.Go.OpenSpec.ofChange s with cond := some uptoSmall }

/-- 'laws.FnMatchLess', WHERE WHAT IT READS IS OF BULK AT MOST 1048576: true; the input reads as it did. -/
def fnMatchLessUptoRow : OpenClaim := { program := "ytlaaihnokoeliaa", sum := "d924e93b5975485877269aadd986255b4138b803c042148ba897592dd00bd6df", func := "loop.example/tipstaff/laws.FnMatchLess", spec := "fnMatchLess", unfollowed := true, recurses := true, apart := false, narrowed := true }
def FnMatchLessUptoSaid : Prop := fnMatchLessUptoRow.holds Try.pinned (OpenSpec.upto fnMatchLessSpec)

/-- 'laws.FnMatchMade', WHERE WHAT IT READS IS OF BULK AT MOST 1048576: true; the input reads as it did. -/
def fnMatchMadeUptoRow : OpenClaim := { program := "ytlaaihnokoeliaa", sum := "d924e93b5975485877269aadd986255b4138b803c042148ba897592dd00bd6df", func := "loop.example/tipstaff/laws.FnMatchMade", spec := "fnMatchMade", unfollowed := true, recurses := true, apart := false, narrowed := true }
def FnMatchMadeUptoSaid : Prop := fnMatchMadeUptoRow.holds Try.pinned (OpenSpec.upto fnMatchMadeSpec)

/-- 'laws.FnMatchOf', WHERE WHAT IT READS IS OF BULK AT MOST 1048576: true; the input reads as it did. -/
def fnMatchOfUptoRow : OpenClaim := { program := "ytlaaihnokoeliaa", sum := "d924e93b5975485877269aadd986255b4138b803c042148ba897592dd00bd6df", func := "loop.example/tipstaff/laws.FnMatchOf", spec := "fnMatchOf", unfollowed := true, recurses := true, apart := false, narrowed := true }
def FnMatchOfUptoSaid : Prop := fnMatchOfUptoRow.holds Try.pinned (OpenSpec.upto fnMatchOfSpec)

/-- 'laws.FnMatchParts', WHERE WHAT IT READS IS OF BULK AT MOST 1048576: true; the input reads as it did. -/
def fnMatchPartsUptoRow : OpenClaim := { program := "ytlaaihnokoeliaa", sum := "d924e93b5975485877269aadd986255b4138b803c042148ba897592dd00bd6df", func := "loop.example/tipstaff/laws.FnMatchParts", spec := "fnMatchParts", unfollowed := true, recurses := true, apart := false, narrowed := true }
def FnMatchPartsUptoSaid : Prop := fnMatchPartsUptoRow.holds Try.pinned (OpenSpec.upto fnMatchPartsSpec)

/-- 'laws.FnMatchSelf', WHERE WHAT IT READS IS OF BULK AT MOST 1048576: true; the input reads as it did. -/
def fnMatchSelfUptoRow : OpenClaim := { program := "ytlaaihnokoeliaa", sum := "d924e93b5975485877269aadd986255b4138b803c042148ba897592dd00bd6df", func := "loop.example/tipstaff/laws.FnMatchSelf", spec := "fnMatchSelf", unfollowed := true, recurses := true, apart := false, narrowed := true }
def FnMatchSelfUptoSaid : Prop := fnMatchSelfUptoRow.holds Try.pinned (OpenSpec.upto fnMatchSelfSpec)

/-- 'laws.FnMatchThrough', WHERE WHAT IT READS IS OF BULK AT MOST 1048576: true; the input reads as it did. -/
def fnMatchThroughUptoRow : OpenClaim := { program := "ytlaaihnokoeliaa", sum := "d924e93b5975485877269aadd986255b4138b803c042148ba897592dd00bd6df", func := "loop.example/tipstaff/laws.FnMatchThrough", spec := "fnMatchThrough", unfollowed := true, recurses := true, apart := false, narrowed := true }
def FnMatchThroughUptoSaid : Prop := fnMatchThroughUptoRow.holds Try.pinned (OpenSpec.upto fnMatchThroughSpec)

end Rows
end Go.Proofs.Ytlaaihnokoeliaa
