/-
  NARROWER THAN 'FOR EVERY INPUT', by the rows' own cells (each row's printed sentence says how): FnExactLinkDo: loops · FnExactProofBack: loops.
  DERIVED. THE GIVEN ROWS OF THIS SEAT. 7 by the template 'for every input the law returns true; each argument reads behind the call as it read before'; 0 by the template 'total and deterministic' (their statements: YtoafleckcjanaaaTotals.lean).
  GIVEN WITH THE SEED: the statements are not yours to turn. If you find one false, say at which input.
  Laid BY PROGRAM, IN A SANDBOX (cutbox-rows.mjs): the forced cells as the released guide's own fill.sh prints them over the translation a2a2c9151cd60de5… (all of the seat's roots in one cut). By AI agents, Wed Nov 11 2026. No macro, syntax, notation, axiom, sorry.
-/
import Derived.Test.YtoafleckcjanaaaChecked
import GoSem.Claim
import GoSem.ClaimJoined
import GoSem.ClaimMapViews
import Derived.JoinedTies
import Derived.KernelRfl
namespace Go.Proofs.Ytoafleckcjanaaa
/- THE CELL 'sum', in the pinned program and in every row, IS THE sha256 OF THE DUMP (.gsa) THAT YtoafleckcjanaaaProg.lean LOADS. Nothing in Lean hashes anything: it is a label: what it is worth is what the hold of that sum in a sandbox is worth. -/
noncomputable def Try.pinned : Pinned := { name := "ytoafleckcjanaaa", sum := "a2a2c9151cd60de52308618d1def31e9fd08d980547a9ea8a017a4ffe8637d18", checked := Try.checked }
namespace Rows
def none {H : Type} : Left H := { results := [], args := [] }

/-- 'laws.FnExactLinkDo': WHATEVER THE INPUT: true; the input reads as it did. -/
def fnExactLinkDoSpec : ChangeSpec := { name := "fnExactLinkDo", fn := fun _ => fun
  | [d1, d2, d3] => { results := [.lit (.bool true)], args := [d1, d2, d3] }
  | _ => none }
def fnExactLinkDoRow : OpenClaim := { program := "ytoafleckcjanaaa", sum := "a2a2c9151cd60de52308618d1def31e9fd08d980547a9ea8a017a4ffe8637d18", func := "loop.example/tipstaff/laws.FnExactLinkDo", spec := "fnExactLinkDo", unfollowed := true, recurses := true, loops := true, plainKeys := false, apart := false }
def FnExactLinkDoSaid : Prop := fnExactLinkDoRow.holds Try.pinned (OpenSpec.ofChange fnExactLinkDoSpec)

/-- ITS FALSE NEIGHBOUR: 'it returns false'. Refute it at one input. -/
def fnExactLinkDoWrong : ChangeSpec := { name := "fnExactLinkDo", fn := fun _ => fun
  | [d1, d2, d3] => { results := [.lit (.bool false)], args := [d1, d2, d3] }
  | _ => none }
def FnExactLinkDoWrongFalsely : Prop := fnExactLinkDoRow.holds Try.pinned (OpenSpec.ofChange fnExactLinkDoWrong)

/-- 'laws.FnProofTwo': WHATEVER THE INPUT: true; the input reads as it did. -/
def fnProofTwoSpec : ChangeSpec := { name := "fnProofTwo", fn := fun _ => fun
  | [d] => { results := [.lit (.bool true)], args := [d] }
  | _ => none }
def fnProofTwoRow : OpenClaim := { program := "ytoafleckcjanaaa", sum := "a2a2c9151cd60de52308618d1def31e9fd08d980547a9ea8a017a4ffe8637d18", func := "loop.example/tipstaff/laws.FnProofTwo", spec := "fnProofTwo", inPlace := ["maps.clone"], unfollowed := true, recurses := true, plainKeys := false, apart := false }
def FnProofTwoSaid : Prop := fnProofTwoRow.holds Try.pinned (OpenSpec.ofChange fnProofTwoSpec)

/-- ITS FALSE NEIGHBOUR: 'it returns false'. Refute it at one input. -/
def fnProofTwoWrong : ChangeSpec := { name := "fnProofTwo", fn := fun _ => fun
  | [d] => { results := [.lit (.bool false)], args := [d] }
  | _ => none }
def FnProofTwoWrongFalsely : Prop := fnProofTwoRow.holds Try.pinned (OpenSpec.ofChange fnProofTwoWrong)

/-- 'laws.FnProofLong': WHATEVER THE INPUT: true; the input reads as it did. -/
def fnProofLongSpec : ChangeSpec := { name := "fnProofLong", fn := fun _ => fun
  | [d] => { results := [.lit (.bool true)], args := [d] }
  | _ => none }
def fnProofLongRow : OpenClaim := { program := "ytoafleckcjanaaa", sum := "a2a2c9151cd60de52308618d1def31e9fd08d980547a9ea8a017a4ffe8637d18", func := "loop.example/tipstaff/laws.FnProofLong", spec := "fnProofLong", inPlace := ["maps.clone"], unfollowed := true, recurses := true, plainKeys := false, apart := false }
def FnProofLongSaid : Prop := fnProofLongRow.holds Try.pinned (OpenSpec.ofChange fnProofLongSpec)

/-- ITS FALSE NEIGHBOUR: 'it returns false'. Refute it at one input. -/
def fnProofLongWrong : ChangeSpec := { name := "fnProofLong", fn := fun _ => fun
  | [d] => { results := [.lit (.bool false)], args := [d] }
  | _ => none }
def FnProofLongWrongFalsely : Prop := fnProofLongRow.holds Try.pinned (OpenSpec.ofChange fnProofLongWrong)

/-- 'laws.FnProofBack': WHATEVER THE INPUT: true; the input reads as it did. -/
def fnProofBackSpec : ChangeSpec := { name := "fnProofBack", fn := fun _ => fun
  | [d] => { results := [.lit (.bool true)], args := [d] }
  | _ => none }
def fnProofBackRow : OpenClaim := { program := "ytoafleckcjanaaa", sum := "a2a2c9151cd60de52308618d1def31e9fd08d980547a9ea8a017a4ffe8637d18", func := "loop.example/tipstaff/laws.FnProofBack", spec := "fnProofBack", inPlace := ["maps.clone"], unfollowed := true, recurses := true, plainKeys := false, apart := false }
def FnProofBackSaid : Prop := fnProofBackRow.holds Try.pinned (OpenSpec.ofChange fnProofBackSpec)

/-- ITS FALSE NEIGHBOUR: 'it returns false'. Refute it at one input. -/
def fnProofBackWrong : ChangeSpec := { name := "fnProofBack", fn := fun _ => fun
  | [d] => { results := [.lit (.bool false)], args := [d] }
  | _ => none }
def FnProofBackWrongFalsely : Prop := fnProofBackRow.holds Try.pinned (OpenSpec.ofChange fnProofBackWrong)

/-- 'laws.FnProofBackTwice': WHATEVER THE INPUT: true; the input reads as it did. -/
def fnProofBackTwiceSpec : ChangeSpec := { name := "fnProofBackTwice", fn := fun _ => fun
  | [d] => { results := [.lit (.bool true)], args := [d] }
  | _ => none }
def fnProofBackTwiceRow : OpenClaim := { program := "ytoafleckcjanaaa", sum := "a2a2c9151cd60de52308618d1def31e9fd08d980547a9ea8a017a4ffe8637d18", func := "loop.example/tipstaff/laws.FnProofBackTwice", spec := "fnProofBackTwice", inPlace := ["maps.clone"], unfollowed := true, recurses := true, plainKeys := false, apart := false }
def FnProofBackTwiceSaid : Prop := fnProofBackTwiceRow.holds Try.pinned (OpenSpec.ofChange fnProofBackTwiceSpec)

/-- ITS FALSE NEIGHBOUR: 'it returns false'. Refute it at one input. -/
def fnProofBackTwiceWrong : ChangeSpec := { name := "fnProofBackTwice", fn := fun _ => fun
  | [d] => { results := [.lit (.bool false)], args := [d] }
  | _ => none }
def FnProofBackTwiceWrongFalsely : Prop := fnProofBackTwiceRow.holds Try.pinned (OpenSpec.ofChange fnProofBackTwiceWrong)

/-- 'laws.FnProofUnderNone': WHATEVER THE INPUT: true; the input reads as it did. -/
def fnProofUnderNoneSpec : ChangeSpec := { name := "fnProofUnderNone", fn := fun _ => fun
  | [d] => { results := [.lit (.bool true)], args := [d] }
  | _ => none }
def fnProofUnderNoneRow : OpenClaim := { program := "ytoafleckcjanaaa", sum := "a2a2c9151cd60de52308618d1def31e9fd08d980547a9ea8a017a4ffe8637d18", func := "loop.example/tipstaff/laws.FnProofUnderNone", spec := "fnProofUnderNone", inPlace := ["maps.clone"], unfollowed := true, recurses := true, plainKeys := false, apart := false }
def FnProofUnderNoneSaid : Prop := fnProofUnderNoneRow.holds Try.pinned (OpenSpec.ofChange fnProofUnderNoneSpec)

/-- ITS FALSE NEIGHBOUR: 'it returns false'. Refute it at one input. -/
def fnProofUnderNoneWrong : ChangeSpec := { name := "fnProofUnderNone", fn := fun _ => fun
  | [d] => { results := [.lit (.bool false)], args := [d] }
  | _ => none }
def FnProofUnderNoneWrongFalsely : Prop := fnProofUnderNoneRow.holds Try.pinned (OpenSpec.ofChange fnProofUnderNoneWrong)

/-- 'laws.FnExactProofBack': WHATEVER THE INPUT: true; the input reads as it did. -/
def fnExactProofBackSpec : ChangeSpec := { name := "fnExactProofBack", fn := fun _ => fun
  | [d] => { results := [.lit (.bool true)], args := [d] }
  | _ => none }
def fnExactProofBackRow : OpenClaim := { program := "ytoafleckcjanaaa", sum := "a2a2c9151cd60de52308618d1def31e9fd08d980547a9ea8a017a4ffe8637d18", func := "loop.example/tipstaff/laws.FnExactProofBack", spec := "fnExactProofBack", inPlace := ["maps.clone"], unfollowed := true, recurses := true, loops := true, plainKeys := false, apart := false }
def FnExactProofBackSaid : Prop := fnExactProofBackRow.holds Try.pinned (OpenSpec.ofChange fnExactProofBackSpec)

/-- ITS FALSE NEIGHBOUR: 'it returns false'. Refute it at one input. -/
def fnExactProofBackWrong : ChangeSpec := { name := "fnExactProofBack", fn := fun _ => fun
  | [d] => { results := [.lit (.bool false)], args := [d] }
  | _ => none }
def FnExactProofBackWrongFalsely : Prop := fnExactProofBackRow.holds Try.pinned (OpenSpec.ofChange fnExactProofBackWrong)

/- THE SECOND FORM. 'bulk': how many values and letters a reading holds, each counted each time it is reached (what is shared counts as often as it is met; a slice's spare places count too). A statement '..UptoSaid' is the law's where the arguments, and the package variables that the reading takes, are together of bulk at most 1048576: NARROWER than '..Said'. Prove '..Said' where nothing that the law and all that it calls make is longer than what came in: it says more and counts as full. Else prove '..UptoSaid'. A law counts once. -/
mutual
def uptoBulk {H : Type} : DataW H → Nat
  | .lit (.string bytes) => bytes.length + 1
  | .lit _ => 1
  | .nil => 1
  | .ptr d => uptoBulk d + 1
  | .slice elems spare => uptoBulkAll elems + uptoBulkAll spare + 1
  | .agg parts => uptoBulkAll parts + 1
  | .iface _ d => uptoBulk d + 1
  | .map entries => uptoBulkEntries entries + 1
  | .held _ => 1
def uptoBulkAll {H : Type} : List (DataW H) → Nat
  | [] => 0
  | d :: r => uptoBulk d + uptoBulkAll r
def uptoBulkEntries {H : Type} : List (Lit × DataW H) → Nat
  | [] => 0
  | x :: r => uptoBulkEntry x + uptoBulkEntries r
def uptoBulkEntry {H : Type} : Lit × DataW H → Nat
  | (.string bytes, d) => bytes.length + uptoBulk d + 1
  | (_, d) => uptoBulk d + 1
 end
def uptoSmall : (H : Type) → List (DataW H) → Bool := fun _ ds => decide (uptoBulkAll ds ≤ 1048576)
def OpenSpec.upto (s : _root_.Go.ChangeSpec) : _root_.Go.OpenSpec := { _root_.Go.OpenSpec.ofChange s with cond := some uptoSmall }

/-- 'laws.FnExactLinkDo', WHERE WHAT IT READS IS OF BULK AT MOST 1048576: true; the input reads as it did. -/
def fnExactLinkDoUptoRow : OpenClaim := { program := "ytoafleckcjanaaa", sum := "a2a2c9151cd60de52308618d1def31e9fd08d980547a9ea8a017a4ffe8637d18", func := "loop.example/tipstaff/laws.FnExactLinkDo", spec := "fnExactLinkDo", unfollowed := true, recurses := true, loops := true, plainKeys := false, apart := false, narrowed := true }
def FnExactLinkDoUptoSaid : Prop := fnExactLinkDoUptoRow.holds Try.pinned (OpenSpec.upto fnExactLinkDoSpec)

/-- 'laws.FnProofTwo', WHERE WHAT IT READS IS OF BULK AT MOST 1048576: true; the input reads as it did. -/
def fnProofTwoUptoRow : OpenClaim := { program := "ytoafleckcjanaaa", sum := "a2a2c9151cd60de52308618d1def31e9fd08d980547a9ea8a017a4ffe8637d18", func := "loop.example/tipstaff/laws.FnProofTwo", spec := "fnProofTwo", inPlace := ["maps.clone"], unfollowed := true, recurses := true, plainKeys := false, apart := false, narrowed := true }
def FnProofTwoUptoSaid : Prop := fnProofTwoUptoRow.holds Try.pinned (OpenSpec.upto fnProofTwoSpec)

/-- 'laws.FnProofLong', WHERE WHAT IT READS IS OF BULK AT MOST 1048576: true; the input reads as it did. -/
def fnProofLongUptoRow : OpenClaim := { program := "ytoafleckcjanaaa", sum := "a2a2c9151cd60de52308618d1def31e9fd08d980547a9ea8a017a4ffe8637d18", func := "loop.example/tipstaff/laws.FnProofLong", spec := "fnProofLong", inPlace := ["maps.clone"], unfollowed := true, recurses := true, plainKeys := false, apart := false, narrowed := true }
def FnProofLongUptoSaid : Prop := fnProofLongUptoRow.holds Try.pinned (OpenSpec.upto fnProofLongSpec)

/-- 'laws.FnProofBack', WHERE WHAT IT READS IS OF BULK AT MOST 1048576: true; the input reads as it did. -/
def fnProofBackUptoRow : OpenClaim := { program := "ytoafleckcjanaaa", sum := "a2a2c9151cd60de52308618d1def31e9fd08d980547a9ea8a017a4ffe8637d18", func := "loop.example/tipstaff/laws.FnProofBack", spec := "fnProofBack", inPlace := ["maps.clone"], unfollowed := true, recurses := true, plainKeys := false, apart := false, narrowed := true }
def FnProofBackUptoSaid : Prop := fnProofBackUptoRow.holds Try.pinned (OpenSpec.upto fnProofBackSpec)

/-- 'laws.FnProofBackTwice', WHERE WHAT IT READS IS OF BULK AT MOST 1048576: true; the input reads as it did. -/
def fnProofBackTwiceUptoRow : OpenClaim := { program := "ytoafleckcjanaaa", sum := "a2a2c9151cd60de52308618d1def31e9fd08d980547a9ea8a017a4ffe8637d18", func := "loop.example/tipstaff/laws.FnProofBackTwice", spec := "fnProofBackTwice", inPlace := ["maps.clone"], unfollowed := true, recurses := true, plainKeys := false, apart := false, narrowed := true }
def FnProofBackTwiceUptoSaid : Prop := fnProofBackTwiceUptoRow.holds Try.pinned (OpenSpec.upto fnProofBackTwiceSpec)

/-- 'laws.FnProofUnderNone', WHERE WHAT IT READS IS OF BULK AT MOST 1048576: true; the input reads as it did. -/
def fnProofUnderNoneUptoRow : OpenClaim := { program := "ytoafleckcjanaaa", sum := "a2a2c9151cd60de52308618d1def31e9fd08d980547a9ea8a017a4ffe8637d18", func := "loop.example/tipstaff/laws.FnProofUnderNone", spec := "fnProofUnderNone", inPlace := ["maps.clone"], unfollowed := true, recurses := true, plainKeys := false, apart := false, narrowed := true }
def FnProofUnderNoneUptoSaid : Prop := fnProofUnderNoneUptoRow.holds Try.pinned (OpenSpec.upto fnProofUnderNoneSpec)

/-- 'laws.FnExactProofBack', WHERE WHAT IT READS IS OF BULK AT MOST 1048576: true; the input reads as it did. -/
def fnExactProofBackUptoRow : OpenClaim := { program := "ytoafleckcjanaaa", sum := "a2a2c9151cd60de52308618d1def31e9fd08d980547a9ea8a017a4ffe8637d18", func := "loop.example/tipstaff/laws.FnExactProofBack", spec := "fnExactProofBack", inPlace := ["maps.clone"], unfollowed := true, recurses := true, loops := true, plainKeys := false, apart := false, narrowed := true }
def FnExactProofBackUptoSaid : Prop := fnExactProofBackUptoRow.holds Try.pinned (OpenSpec.upto fnExactProofBackSpec)

end Rows
end Go.Proofs.Ytoafleckcjanaaa
