/-
  NARROWER THAN 'FOR EVERY INPUT', by the rows' own cells (each row's printed sentence says how): FnExactLinkDo: loops.
  DERIVED. THE GIVEN ROWS OF THIS SEAT. 10 by the template 'for every input the law returns true; each argument reads behind the call as it read before'; 0 by the template 'total and deterministic' (their statements: YtdkcbbhkoibplaaTotals.lean).
  GIVEN WITH THE SEED: the statements are not yours to turn. If you find one false, say at which input.
  Laid BY PROGRAM, IN A SANDBOX (cutbox-rows.mjs): the forced cells as the released guide's own fill.sh prints them over the translation b128347bb9f280cb… (all of the seat's roots in one cut). By AI agents, Wed Nov 11 2026. No macro, syntax, notation, axiom, sorry.
-/
import Derived.Test.YtdkcbbhkoibplaaChecked
import GoSem.Claim
import GoSem.ClaimJoined
import GoSem.ClaimMapViews
import Derived.JoinedTies
import Derived.KernelRfl
namespace Go.Proofs.Ytdkcbbhkoibplaa
/- THE CELL 'sum', in the pinned program and in every row, IS THE sha256 OF THE DUMP (.gsa) THAT YtdkcbbhkoibplaaProg.lean LOADS. Nothing in Lean hashes anything: it is a label: what it is worth is what the hold of that sum in a sandbox is worth. -/
noncomputable def Try.pinned : Pinned := { name := "ytdkcbbhkoibplaa", sum := "b128347bb9f280cb8ff6948ad1428d73a6efa9d0c75e8549c7a51d0ef9ff0130", checked := Try.checked }
namespace Rows
def none {H : Type} : Left H := { results := [], args := [] }

/-- 'laws.FnExactLinkDo': WHATEVER THE INPUT: true; the input reads as it did. -/
def fnExactLinkDoSpec : ChangeSpec := { name := "fnExactLinkDo", fn := fun _ => fun
  | [d1, d2, d3] => { results := [.lit (.bool true)], args := [d1, d2, d3] }
  | _ => none }
def fnExactLinkDoRow : OpenClaim := { program := "ytdkcbbhkoibplaa", sum := "b128347bb9f280cb8ff6948ad1428d73a6efa9d0c75e8549c7a51d0ef9ff0130", func := "loop.example/tipstaff/laws.FnExactLinkDo", spec := "fnExactLinkDo", unfollowed := true, recurses := true, loops := true, plainKeys := false, apart := false }
def FnExactLinkDoSaid : Prop := fnExactLinkDoRow.holds Try.pinned (OpenSpec.ofChange fnExactLinkDoSpec)

/-- ITS FALSE NEIGHBOUR: 'it returns false'. Refute it at one input. -/
def fnExactLinkDoWrong : ChangeSpec := { name := "fnExactLinkDo", fn := fun _ => fun
  | [d1, d2, d3] => { results := [.lit (.bool false)], args := [d1, d2, d3] }
  | _ => none }
def FnExactLinkDoWrongFalsely : Prop := fnExactLinkDoRow.holds Try.pinned (OpenSpec.ofChange fnExactLinkDoWrong)

/-- 'laws.FnLinkBack': WHATEVER THE INPUT: true; the input reads as it did. -/
def fnLinkBackSpec : ChangeSpec := { name := "fnLinkBack", fn := fun _ => fun
  | [d] => { results := [.lit (.bool true)], args := [d] }
  | _ => none }
def fnLinkBackRow : OpenClaim := { program := "ytdkcbbhkoibplaa", sum := "b128347bb9f280cb8ff6948ad1428d73a6efa9d0c75e8549c7a51d0ef9ff0130", func := "loop.example/tipstaff/laws.FnLinkBack", spec := "fnLinkBack", unfollowed := true, recurses := true, plainKeys := false, apart := false }
def FnLinkBackSaid : Prop := fnLinkBackRow.holds Try.pinned (OpenSpec.ofChange fnLinkBackSpec)

/-- ITS FALSE NEIGHBOUR: 'it returns false'. Refute it at one input. -/
def fnLinkBackWrong : ChangeSpec := { name := "fnLinkBack", fn := fun _ => fun
  | [d] => { results := [.lit (.bool false)], args := [d] }
  | _ => none }
def FnLinkBackWrongFalsely : Prop := fnLinkBackRow.holds Try.pinned (OpenSpec.ofChange fnLinkBackWrong)

/-- 'laws.FnLinkFar': WHATEVER THE INPUT: true; the input reads as it did. -/
def fnLinkFarSpec : ChangeSpec := { name := "fnLinkFar", fn := fun _ => fun
  | [d] => { results := [.lit (.bool true)], args := [d] }
  | _ => none }
def fnLinkFarRow : OpenClaim := { program := "ytdkcbbhkoibplaa", sum := "b128347bb9f280cb8ff6948ad1428d73a6efa9d0c75e8549c7a51d0ef9ff0130", func := "loop.example/tipstaff/laws.FnLinkFar", spec := "fnLinkFar", unfollowed := true, recurses := true, plainKeys := false, apart := false }
def FnLinkFarSaid : Prop := fnLinkFarRow.holds Try.pinned (OpenSpec.ofChange fnLinkFarSpec)

/-- ITS FALSE NEIGHBOUR: 'it returns false'. Refute it at one input. -/
def fnLinkFarWrong : ChangeSpec := { name := "fnLinkFar", fn := fun _ => fun
  | [d] => { results := [.lit (.bool false)], args := [d] }
  | _ => none }
def FnLinkFarWrongFalsely : Prop := fnLinkFarRow.holds Try.pinned (OpenSpec.ofChange fnLinkFarWrong)

/-- 'laws.FnLinkEq': WHATEVER THE INPUT: true; the input reads as it did. -/
def fnLinkEqSpec : ChangeSpec := { name := "fnLinkEq", fn := fun _ => fun
  | [d] => { results := [.lit (.bool true)], args := [d] }
  | _ => none }
def fnLinkEqRow : OpenClaim := { program := "ytdkcbbhkoibplaa", sum := "b128347bb9f280cb8ff6948ad1428d73a6efa9d0c75e8549c7a51d0ef9ff0130", func := "loop.example/tipstaff/laws.FnLinkEq", spec := "fnLinkEq", unfollowed := true, recurses := true, plainKeys := false, apart := false }
def FnLinkEqSaid : Prop := fnLinkEqRow.holds Try.pinned (OpenSpec.ofChange fnLinkEqSpec)

/-- ITS FALSE NEIGHBOUR: 'it returns false'. Refute it at one input. -/
def fnLinkEqWrong : ChangeSpec := { name := "fnLinkEq", fn := fun _ => fun
  | [d] => { results := [.lit (.bool false)], args := [d] }
  | _ => none }
def FnLinkEqWrongFalsely : Prop := fnLinkEqRow.holds Try.pinned (OpenSpec.ofChange fnLinkEqWrong)

/-- 'laws.FnLinkOne': WHATEVER THE INPUT: true; the input reads as it did. -/
def fnLinkOneSpec : ChangeSpec := { name := "fnLinkOne", fn := fun _ => fun
  | [d] => { results := [.lit (.bool true)], args := [d] }
  | _ => none }
def fnLinkOneRow : OpenClaim := { program := "ytdkcbbhkoibplaa", sum := "b128347bb9f280cb8ff6948ad1428d73a6efa9d0c75e8549c7a51d0ef9ff0130", func := "loop.example/tipstaff/laws.FnLinkOne", spec := "fnLinkOne", unfollowed := true, recurses := true, plainKeys := false, apart := false }
def FnLinkOneSaid : Prop := fnLinkOneRow.holds Try.pinned (OpenSpec.ofChange fnLinkOneSpec)

/-- ITS FALSE NEIGHBOUR: 'it returns false'. Refute it at one input. -/
def fnLinkOneWrong : ChangeSpec := { name := "fnLinkOne", fn := fun _ => fun
  | [d] => { results := [.lit (.bool false)], args := [d] }
  | _ => none }
def FnLinkOneWrongFalsely : Prop := fnLinkOneRow.holds Try.pinned (OpenSpec.ofChange fnLinkOneWrong)

/-- 'laws.FnProofEnd': WHATEVER THE INPUT: true; the input reads as it did. -/
def fnProofEndSpec : ChangeSpec := { name := "fnProofEnd", fn := fun _ => fun
  | [d1, d2] => { results := [.lit (.bool true)], args := [d1, d2] }
  | _ => none }
def fnProofEndRow : OpenClaim := { program := "ytdkcbbhkoibplaa", sum := "b128347bb9f280cb8ff6948ad1428d73a6efa9d0c75e8549c7a51d0ef9ff0130", func := "loop.example/tipstaff/laws.FnProofEnd", spec := "fnProofEnd", unfollowed := true, recurses := true, plainKeys := false, apart := false }
def FnProofEndSaid : Prop := fnProofEndRow.holds Try.pinned (OpenSpec.ofChange fnProofEndSpec)

/-- ITS FALSE NEIGHBOUR: 'it returns false'. Refute it at one input. -/
def fnProofEndWrong : ChangeSpec := { name := "fnProofEnd", fn := fun _ => fun
  | [d1, d2] => { results := [.lit (.bool false)], args := [d1, d2] }
  | _ => none }
def FnProofEndWrongFalsely : Prop := fnProofEndRow.holds Try.pinned (OpenSpec.ofChange fnProofEndWrong)

/-- 'laws.FnProofMore': WHATEVER THE INPUT: true; the input reads as it did. -/
def fnProofMoreSpec : ChangeSpec := { name := "fnProofMore", fn := fun _ => fun
  | [d] => { results := [.lit (.bool true)], args := [d] }
  | _ => none }
def fnProofMoreRow : OpenClaim := { program := "ytdkcbbhkoibplaa", sum := "b128347bb9f280cb8ff6948ad1428d73a6efa9d0c75e8549c7a51d0ef9ff0130", func := "loop.example/tipstaff/laws.FnProofMore", spec := "fnProofMore", unfollowed := true, recurses := true, plainKeys := false, apart := false }
def FnProofMoreSaid : Prop := fnProofMoreRow.holds Try.pinned (OpenSpec.ofChange fnProofMoreSpec)

/-- ITS FALSE NEIGHBOUR: 'it returns false'. Refute it at one input. -/
def fnProofMoreWrong : ChangeSpec := { name := "fnProofMore", fn := fun _ => fun
  | [d] => { results := [.lit (.bool false)], args := [d] }
  | _ => none }
def FnProofMoreWrongFalsely : Prop := fnProofMoreRow.holds Try.pinned (OpenSpec.ofChange fnProofMoreWrong)

/-- 'laws.FnProofNone': WHATEVER THE INPUT: true; the input reads as it did. -/
def fnProofNoneSpec : ChangeSpec := { name := "fnProofNone", fn := fun _ => fun
  | [d] => { results := [.lit (.bool true)], args := [d] }
  | _ => none }
def fnProofNoneRow : OpenClaim := { program := "ytdkcbbhkoibplaa", sum := "b128347bb9f280cb8ff6948ad1428d73a6efa9d0c75e8549c7a51d0ef9ff0130", func := "loop.example/tipstaff/laws.FnProofNone", spec := "fnProofNone", unfollowed := true, recurses := true, plainKeys := false, apart := false }
def FnProofNoneSaid : Prop := fnProofNoneRow.holds Try.pinned (OpenSpec.ofChange fnProofNoneSpec)

/-- ITS FALSE NEIGHBOUR: 'it returns false'. Refute it at one input. -/
def fnProofNoneWrong : ChangeSpec := { name := "fnProofNone", fn := fun _ => fun
  | [d] => { results := [.lit (.bool false)], args := [d] }
  | _ => none }
def FnProofNoneWrongFalsely : Prop := fnProofNoneRow.holds Try.pinned (OpenSpec.ofChange fnProofNoneWrong)

/-- 'laws.FnProofTwo': WHATEVER THE INPUT: true; the input reads as it did. -/
def fnProofTwoSpec : ChangeSpec := { name := "fnProofTwo", fn := fun _ => fun
  | [d] => { results := [.lit (.bool true)], args := [d] }
  | _ => none }
def fnProofTwoRow : OpenClaim := { program := "ytdkcbbhkoibplaa", sum := "b128347bb9f280cb8ff6948ad1428d73a6efa9d0c75e8549c7a51d0ef9ff0130", func := "loop.example/tipstaff/laws.FnProofTwo", spec := "fnProofTwo", inPlace := ["maps.clone"], unfollowed := true, recurses := true, plainKeys := false, apart := false }
def FnProofTwoSaid : Prop := fnProofTwoRow.holds Try.pinned (OpenSpec.ofChange fnProofTwoSpec)

/-- ITS FALSE NEIGHBOUR: 'it returns false'. Refute it at one input. -/
def fnProofTwoWrong : ChangeSpec := { name := "fnProofTwo", fn := fun _ => fun
  | [d] => { results := [.lit (.bool false)], args := [d] }
  | _ => none }
def FnProofTwoWrongFalsely : Prop := fnProofTwoRow.holds Try.pinned (OpenSpec.ofChange fnProofTwoWrong)

/-- 'laws.FnProofLong': WHATEVER THE INPUT: true; the input reads as it did. -/
def fnProofLongSpec : ChangeSpec := { name := "fnProofLong", fn := fun _ => fun
  | [d] => { results := [.lit (.bool true)], args := [d] }
  | _ => none }
def fnProofLongRow : OpenClaim := { program := "ytdkcbbhkoibplaa", sum := "b128347bb9f280cb8ff6948ad1428d73a6efa9d0c75e8549c7a51d0ef9ff0130", func := "loop.example/tipstaff/laws.FnProofLong", spec := "fnProofLong", inPlace := ["maps.clone"], unfollowed := true, recurses := true, plainKeys := false, apart := false }
def FnProofLongSaid : Prop := fnProofLongRow.holds Try.pinned (OpenSpec.ofChange fnProofLongSpec)

/-- ITS FALSE NEIGHBOUR: 'it returns false'. Refute it at one input. -/
def fnProofLongWrong : ChangeSpec := { name := "fnProofLong", fn := fun _ => fun
  | [d] => { results := [.lit (.bool false)], args := [d] }
  | _ => none }
def FnProofLongWrongFalsely : Prop := fnProofLongRow.holds Try.pinned (OpenSpec.ofChange fnProofLongWrong)

/- THE SECOND FORM. 'bulk': how many values and letters a reading holds, each counted each time it is reached (what is shared counts as often as it is met; a slice's spare places count too). A statement '..UptoSaid' is the law's where the arguments, and the package variables that the reading takes, are together of bulk at most 1048576: NARROWER than '..Said'. Prove '..Said' where nothing that the law and all that it calls make is longer than what came in: it says more and counts as full. Else prove '..UptoSaid'. A law counts once. -/
mutual
def uptoBulk {H : Type} : DataW H → Nat
  | .lit (.string bytes) => bytes.length + 1
  | .lit _ => 1
  | .nil => 1
  | .ptr d => uptoBulk d + 1
  | .slice elems spare => uptoBulkAll elems + uptoBulkAll spare + 1
  | .agg parts => uptoBulkAll parts + 1
  | .iface _ d => uptoBulk d + 1
  | .map entries => uptoBulkEntries entries + 1
  | .held _ => 1
def uptoBulkAll {H : Type} : List (DataW H) → Nat
  | [] => 0
  | d :: r => uptoBulk d + uptoBulkAll r
def uptoBulkEntries {H : Type} : List (Lit × DataW H) → Nat
  | [] => 0
  | x :: r => uptoBulkEntry x + uptoBulkEntries r
def uptoBulkEntry {H : Type} : Lit × DataW H → Nat
  | (.string bytes, d) => bytes.length + uptoBulk d + 1
  | (_, d) => uptoBulk d + 1
 end
def uptoSmall : (H : Type) → List (DataW H) → Bool := fun _ ds => decide (uptoBulkAll ds ≤ 1048576)
def OpenSpec.upto (s : _root_.Go.ChangeSpec) : _root_.Go.OpenSpec := { _root_.Go.OpenSpec.ofChange s with cond := some uptoSmall }

/-- 'laws.FnExactLinkDo', WHERE WHAT IT READS IS OF BULK AT MOST 1048576: true; the input reads as it did. -/
def fnExactLinkDoUptoRow : OpenClaim := { program := "ytdkcbbhkoibplaa", sum := "b128347bb9f280cb8ff6948ad1428d73a6efa9d0c75e8549c7a51d0ef9ff0130", func := "loop.example/tipstaff/laws.FnExactLinkDo", spec := "fnExactLinkDo", unfollowed := true, recurses := true, loops := true, plainKeys := false, apart := false, narrowed := true }
def FnExactLinkDoUptoSaid : Prop := fnExactLinkDoUptoRow.holds Try.pinned (OpenSpec.upto fnExactLinkDoSpec)

/-- 'laws.FnLinkBack', WHERE WHAT IT READS IS OF BULK AT MOST 1048576: true; the input reads as it did. -/
def fnLinkBackUptoRow : OpenClaim := { program := "ytdkcbbhkoibplaa", sum := "b128347bb9f280cb8ff6948ad1428d73a6efa9d0c75e8549c7a51d0ef9ff0130", func := "loop.example/tipstaff/laws.FnLinkBack", spec := "fnLinkBack", unfollowed := true, recurses := true, plainKeys := false, apart := false, narrowed := true }
def FnLinkBackUptoSaid : Prop := fnLinkBackUptoRow.holds Try.pinned (OpenSpec.upto fnLinkBackSpec)

/-- 'laws.FnLinkFar', WHERE WHAT IT READS IS OF BULK AT MOST 1048576: true; the input reads as it did. -/
def fnLinkFarUptoRow : OpenClaim := { program := "ytdkcbbhkoibplaa", sum := "b128347bb9f280cb8ff6948ad1428d73a6efa9d0c75e8549c7a51d0ef9ff0130", func := "loop.example/tipstaff/laws.FnLinkFar", spec := "fnLinkFar", unfollowed := true, recurses := true, plainKeys := false, apart := false, narrowed := true }
def FnLinkFarUptoSaid : Prop := fnLinkFarUptoRow.holds Try.pinned (OpenSpec.upto fnLinkFarSpec)

/-- 'laws.FnLinkEq', WHERE WHAT IT READS IS OF BULK AT MOST 1048576: true; the input reads as it did. -/
def fnLinkEqUptoRow : OpenClaim := { program := "ytdkcbbhkoibplaa", sum := "b128347bb9f280cb8ff6948ad1428d73a6efa9d0c75e8549c7a51d0ef9ff0130", func := "loop.example/tipstaff/laws.FnLinkEq", spec := "fnLinkEq", unfollowed := true, recurses := true, plainKeys := false, apart := false, narrowed := true }
def FnLinkEqUptoSaid : Prop := fnLinkEqUptoRow.holds Try.pinned (OpenSpec.upto fnLinkEqSpec)

/-- 'laws.FnLinkOne', WHERE WHAT IT READS IS OF BULK AT MOST 1048576: true; the input reads as it did. -/
def fnLinkOneUptoRow : OpenClaim := { program := "ytdkcbbhkoibplaa", sum := "b128347bb9f280cb8ff6948ad1428d73a6efa9d0c75e8549c7a51d0ef9ff0130", func := "loop.example/tipstaff/laws.FnLinkOne", spec := "fnLinkOne", unfollowed := true, recurses := true, plainKeys := false, apart := false, narrowed := true }
def FnLinkOneUptoSaid : Prop := fnLinkOneUptoRow.holds Try.pinned (OpenSpec.upto fnLinkOneSpec)

/-- 'laws.FnProofEnd', WHERE WHAT IT READS IS OF BULK AT MOST 1048576: true; the input reads as it did. -/
def fnProofEndUptoRow : OpenClaim := { program := "ytdkcbbhkoibplaa", sum := "b128347bb9f280cb8ff6948ad1428d73a6efa9d0c75e8549c7a51d0ef9ff0130", func := "loop.example/tipstaff/laws.FnProofEnd", spec := "fnProofEnd", unfollowed := true, recurses := true, plainKeys := false, apart := false, narrowed := true }
def FnProofEndUptoSaid : Prop := fnProofEndUptoRow.holds Try.pinned (OpenSpec.upto fnProofEndSpec)

/-- 'laws.FnProofMore', WHERE WHAT IT READS IS OF BULK AT MOST 1048576: true; the input reads as it did. -/
def fnProofMoreUptoRow : OpenClaim := { program := "ytdkcbbhkoibplaa", sum := "b128347bb9f280cb8ff6948ad1428d73a6efa9d0c75e8549c7a51d0ef9ff0130", func := "loop.example/tipstaff/laws.FnProofMore", spec := "fnProofMore", unfollowed := true, recurses := true, plainKeys := false, apart := false, narrowed := true }
def FnProofMoreUptoSaid : Prop := fnProofMoreUptoRow.holds Try.pinned (OpenSpec.upto fnProofMoreSpec)

/-- 'laws.FnProofNone', WHERE WHAT IT READS IS OF BULK AT MOST 1048576: true; the input reads as it did. -/
def fnProofNoneUptoRow : OpenClaim := { program := "ytdkcbbhkoibplaa", sum := "b128347bb9f280cb8ff6948ad1428d73a6efa9d0c75e8549c7a51d0ef9ff0130", func := "loop.example/tipstaff/laws.FnProofNone", spec := "fnProofNone", unfollowed := true, recurses := true, plainKeys := false, apart := false, narrowed := true }
def FnProofNoneUptoSaid : Prop := fnProofNoneUptoRow.holds Try.pinned (OpenSpec.upto fnProofNoneSpec)

/-- 'laws.FnProofTwo', WHERE WHAT IT READS IS OF BULK AT MOST 1048576: true; the input reads as it did. -/
def fnProofTwoUptoRow : OpenClaim := { program := "ytdkcbbhkoibplaa", sum := "b128347bb9f280cb8ff6948ad1428d73a6efa9d0c75e8549c7a51d0ef9ff0130", func := "loop.example/tipstaff/laws.FnProofTwo", spec := "fnProofTwo", inPlace := ["maps.clone"], unfollowed := true, recurses := true, plainKeys := false, apart := false, narrowed := true }
def FnProofTwoUptoSaid : Prop := fnProofTwoUptoRow.holds Try.pinned (OpenSpec.upto fnProofTwoSpec)

/-- 'laws.FnProofLong', WHERE WHAT IT READS IS OF BULK AT MOST 1048576: true; the input reads as it did. -/
def fnProofLongUptoRow : OpenClaim := { program := "ytdkcbbhkoibplaa", sum := "b128347bb9f280cb8ff6948ad1428d73a6efa9d0c75e8549c7a51d0ef9ff0130", func := "loop.example/tipstaff/laws.FnProofLong", spec := "fnProofLong", inPlace := ["maps.clone"], unfollowed := true, recurses := true, plainKeys := false, apart := false, narrowed := true }
def FnProofLongUptoSaid : Prop := fnProofLongUptoRow.holds Try.pinned (OpenSpec.upto fnProofLongSpec)

end Rows
end Go.Proofs.Ytdkcbbhkoibplaa
