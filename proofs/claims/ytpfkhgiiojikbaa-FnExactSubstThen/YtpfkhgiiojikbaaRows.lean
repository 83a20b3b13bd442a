/-
  NARROWER THAN 'FOR EVERY INPUT', by the rows' own cells (each row's printed sentence says how): FnExactSubstThen: loops · FnExactUnifyOf: loops.
  DERIVED. THE GIVEN ROWS OF THIS SEAT. 10 by the template 'for every input the law returns true; each argument reads behind the call as it read before'; 0 by the template 'total and deterministic' (their statements: YtpfkhgiiojikbaaTotals.lean).
  GIVEN WITH THE SEED: the statements are not yours to turn. If you find one false, say at which input.
  Laid BY PROGRAM, IN A SANDBOX (cutbox-rows.mjs): the forced cells as the released guide's own fill.sh prints them over the translation a6a7a561813ec2f3… (all of the seat's roots in one cut). By AI agents, Wed Nov 11 2026. No macro, syntax, notation, axiom, sorry.
-/
import Derived.Test.YtpfkhgiiojikbaaChecked
import GoSem.Claim
import GoSem.ClaimJoined
import GoSem.ClaimMapViews
import Derived.JoinedTies
import Derived.KernelRfl
namespace Go.Proofs.Ytpfkhgiiojikbaa
/- THE CELL 'sum', in the pinned program and in every row, IS THE sha256 OF THE DUMP (.gsa) THAT YtpfkhgiiojikbaaProg.lean LOADS. Nothing in Lean hashes anything: it is a label: what it is worth is what the hold of that sum in a sandbox is worth. -/
noncomputable def Try.pinned : Pinned := { name := "ytpfkhgiiojikbaa", sum := "a6a7a561813ec2f359d55455d4ffada5c9ae152e0301df82a4ef0305fc237b55", checked := Try.checked }
namespace Rows
def none {H : Type} : Left H := { results := [], args := [] }

/-- 'laws.FnSubstThen': WHATEVER THE INPUT: true; the input reads as it did. -/
def fnSubstThenSpec : ChangeSpec := { name := "fnSubstThen", fn := fun _ => fun
  | [d1, d2] => { results := [.lit (.bool true)], args := [d1, d2] }
  | _ => none }
def fnSubstThenRow : OpenClaim := { program := "ytpfkhgiiojikbaa", sum := "a6a7a561813ec2f359d55455d4ffada5c9ae152e0301df82a4ef0305fc237b55", func := "loop.example/tipstaff/laws.FnSubstThen", spec := "fnSubstThen", inPlace := ["maps.clone"], unfollowed := true, recurses := true, apart := false }
def FnSubstThenSaid : Prop := fnSubstThenRow.holds Try.pinned (OpenSpec.ofChange fnSubstThenSpec)

/-- ITS FALSE NEIGHBOUR: 'it returns false'. Refute it at one input. -/
def fnSubstThenWrong : ChangeSpec := { name := "fnSubstThen", fn := fun _ => fun
  | [d1, d2] => { results := [.lit (.bool false)], args := [d1, d2] }
  | _ => none }
def FnSubstThenWrongFalsely : Prop := fnSubstThenRow.holds Try.pinned (OpenSpec.ofChange fnSubstThenWrong)

/-- 'laws.FnSubstThenThree': WHATEVER THE INPUT: true; the input reads as it did. -/
def fnSubstThenThreeSpec : ChangeSpec := { name := "fnSubstThenThree", fn := fun _ => fun
  | [d1, d2] => { results := [.lit (.bool true)], args := [d1, d2] }
  | _ => none }
def fnSubstThenThreeRow : OpenClaim := { program := "ytpfkhgiiojikbaa", sum := "a6a7a561813ec2f359d55455d4ffada5c9ae152e0301df82a4ef0305fc237b55", func := "loop.example/tipstaff/laws.FnSubstThenThree", spec := "fnSubstThenThree", inPlace := ["maps.clone"], unfollowed := true, recurses := true, apart := false }
def FnSubstThenThreeSaid : Prop := fnSubstThenThreeRow.holds Try.pinned (OpenSpec.ofChange fnSubstThenThreeSpec)

/-- ITS FALSE NEIGHBOUR: 'it returns false'. Refute it at one input. -/
def fnSubstThenThreeWrong : ChangeSpec := { name := "fnSubstThenThree", fn := fun _ => fun
  | [d1, d2] => { results := [.lit (.bool false)], args := [d1, d2] }
  | _ => none }
def FnSubstThenThreeWrongFalsely : Prop := fnSubstThenThreeRow.holds Try.pinned (OpenSpec.ofChange fnSubstThenThreeWrong)

/-- 'laws.FnExactSubstThen': WHATEVER THE INPUT: true; the input reads as it did. -/
def fnExactSubstThenSpec : ChangeSpec := { name := "fnExactSubstThen", fn := fun _ => fun
  | [d1, d2] => { results := [.lit (.bool true)], args := [d1, d2] }
  | _ => none }
def fnExactSubstThenRow : OpenClaim := { program := "ytpfkhgiiojikbaa", sum := "a6a7a561813ec2f359d55455d4ffada5c9ae152e0301df82a4ef0305fc237b55", func := "loop.example/tipstaff/laws.FnExactSubstThen", spec := "fnExactSubstThen", inPlace := ["maps.clone"], unfollowed := true, recurses := true, loops := true, apart := false }
def FnExactSubstThenSaid : Prop := fnExactSubstThenRow.holds Try.pinned (OpenSpec.ofChange fnExactSubstThenSpec)

/-- ITS FALSE NEIGHBOUR: 'it returns false'. Refute it at one input. -/
def fnExactSubstThenWrong : ChangeSpec := { name := "fnExactSubstThen", fn := fun _ => fun
  | [d1, d2] => { results := [.lit (.bool false)], args := [d1, d2] }
  | _ => none }
def FnExactSubstThenWrongFalsely : Prop := fnExactSubstThenRow.holds Try.pinned (OpenSpec.ofChange fnExactSubstThenWrong)

/-- 'laws.FnUnifyOf': WHATEVER THE INPUT: true; the input reads as it did. -/
def fnUnifyOfSpec : ChangeSpec := { name := "fnUnifyOf", fn := fun _ => fun
  | [d] => { results := [.lit (.bool true)], args := [d] }
  | _ => none }
def fnUnifyOfRow : OpenClaim := { program := "ytpfkhgiiojikbaa", sum := "a6a7a561813ec2f359d55455d4ffada5c9ae152e0301df82a4ef0305fc237b55", func := "loop.example/tipstaff/laws.FnUnifyOf", spec := "fnUnifyOf", unfollowed := true, recurses := true, apart := false }
def FnUnifyOfSaid : Prop := fnUnifyOfRow.holds Try.pinned (OpenSpec.ofChange fnUnifyOfSpec)

/-- ITS FALSE NEIGHBOUR: 'it returns false'. Refute it at one input. -/
def fnUnifyOfWrong : ChangeSpec := { name := "fnUnifyOf", fn := fun _ => fun
  | [d] => { results := [.lit (.bool false)], args := [d] }
  | _ => none }
def FnUnifyOfWrongFalsely : Prop := fnUnifyOfRow.holds Try.pinned (OpenSpec.ofChange fnUnifyOfWrong)

/-- 'laws.FnUnifyMost': WHATEVER THE INPUT: true; the input reads as it did. -/
def fnUnifyMostSpec : ChangeSpec := { name := "fnUnifyMost", fn := fun _ => fun
  | [d1, d2] => { results := [.lit (.bool true)], args := [d1, d2] }
  | _ => none }
def fnUnifyMostRow : OpenClaim := { program := "ytpfkhgiiojikbaa", sum := "a6a7a561813ec2f359d55455d4ffada5c9ae152e0301df82a4ef0305fc237b55", func := "loop.example/tipstaff/laws.FnUnifyMost", spec := "fnUnifyMost", unfollowed := true, recurses := true, apart := false }
def FnUnifyMostSaid : Prop := fnUnifyMostRow.holds Try.pinned (OpenSpec.ofChange fnUnifyMostSpec)

/-- ITS FALSE NEIGHBOUR: 'it returns false'. Refute it at one input. -/
def fnUnifyMostWrong : ChangeSpec := { name := "fnUnifyMost", fn := fun _ => fun
  | [d1, d2] => { results := [.lit (.bool false)], args := [d1, d2] }
  | _ => none }
def FnUnifyMostWrongFalsely : Prop := fnUnifyMostRow.holds Try.pinned (OpenSpec.ofChange fnUnifyMostWrong)

/-- 'laws.FnUnifyTurn': WHATEVER THE INPUT: true; the input reads as it did. -/
def fnUnifyTurnSpec : ChangeSpec := { name := "fnUnifyTurn", fn := fun _ => fun
  | [d] => { results := [.lit (.bool true)], args := [d] }
  | _ => none }
def fnUnifyTurnRow : OpenClaim := { program := "ytpfkhgiiojikbaa", sum := "a6a7a561813ec2f359d55455d4ffada5c9ae152e0301df82a4ef0305fc237b55", func := "loop.example/tipstaff/laws.FnUnifyTurn", spec := "fnUnifyTurn", unfollowed := true, recurses := true, apart := false }
def FnUnifyTurnSaid : Prop := fnUnifyTurnRow.holds Try.pinned (OpenSpec.ofChange fnUnifyTurnSpec)

/-- ITS FALSE NEIGHBOUR: 'it returns false'. Refute it at one input. -/
def fnUnifyTurnWrong : ChangeSpec := { name := "fnUnifyTurn", fn := fun _ => fun
  | [d] => { results := [.lit (.bool false)], args := [d] }
  | _ => none }
def FnUnifyTurnWrongFalsely : Prop := fnUnifyTurnRow.holds Try.pinned (OpenSpec.ofChange fnUnifyTurnWrong)

/-- 'laws.FnUnifySelf': WHATEVER THE INPUT: true; the input reads as it did. -/
def fnUnifySelfSpec : ChangeSpec := { name := "fnUnifySelf", fn := fun _ => fun
  | [d] => { results := [.lit (.bool true)], args := [d] }
  | _ => none }
def fnUnifySelfRow : OpenClaim := { program := "ytpfkhgiiojikbaa", sum := "a6a7a561813ec2f359d55455d4ffada5c9ae152e0301df82a4ef0305fc237b55", func := "loop.example/tipstaff/laws.FnUnifySelf", spec := "fnUnifySelf", unfollowed := true, recurses := true, apart := false }
def FnUnifySelfSaid : Prop := fnUnifySelfRow.holds Try.pinned (OpenSpec.ofChange fnUnifySelfSpec)

/-- ITS FALSE NEIGHBOUR: 'it returns false'. Refute it at one input. -/
def fnUnifySelfWrong : ChangeSpec := { name := "fnUnifySelf", fn := fun _ => fun
  | [d] => { results := [.lit (.bool false)], args := [d] }
  | _ => none }
def FnUnifySelfWrongFalsely : Prop := fnUnifySelfRow.holds Try.pinned (OpenSpec.ofChange fnUnifySelfWrong)

/-- 'laws.FnUnifyIn': WHATEVER THE INPUT: true; the input reads as it did. -/
def fnUnifyInSpec : ChangeSpec := { name := "fnUnifyIn", fn := fun _ => fun
  | [d] => { results := [.lit (.bool true)], args := [d] }
  | _ => none }
def fnUnifyInRow : OpenClaim := { program := "ytpfkhgiiojikbaa", sum := "a6a7a561813ec2f359d55455d4ffada5c9ae152e0301df82a4ef0305fc237b55", func := "loop.example/tipstaff/laws.FnUnifyIn", spec := "fnUnifyIn", unfollowed := true, recurses := true, apart := false }
def FnUnifyInSaid : Prop := fnUnifyInRow.holds Try.pinned (OpenSpec.ofChange fnUnifyInSpec)

/-- ITS FALSE NEIGHBOUR: 'it returns false'. Refute it at one input. -/
def fnUnifyInWrong : ChangeSpec := { name := "fnUnifyIn", fn := fun _ => fun
  | [d] => { results := [.lit (.bool false)], args := [d] }
  | _ => none }
def FnUnifyInWrongFalsely : Prop := fnUnifyInRow.holds Try.pinned (OpenSpec.ofChange fnUnifyInWrong)

/-- 'laws.FnUnifyParts': WHATEVER THE INPUT: true; the input reads as it did. -/
def fnUnifyPartsSpec : ChangeSpec := { name := "fnUnifyParts", fn := fun _ => fun
  | [d] => { results := [.lit (.bool true)], args := [d] }
  | _ => none }
def fnUnifyPartsRow : OpenClaim := { program := "ytpfkhgiiojikbaa", sum := "a6a7a561813ec2f359d55455d4ffada5c9ae152e0301df82a4ef0305fc237b55", func := "loop.example/tipstaff/laws.FnUnifyParts", spec := "fnUnifyParts", unfollowed := true, recurses := true, apart := false }
def FnUnifyPartsSaid : Prop := fnUnifyPartsRow.holds Try.pinned (OpenSpec.ofChange fnUnifyPartsSpec)

/-- ITS FALSE NEIGHBOUR: 'it returns false'. Refute it at one input. -/
def fnUnifyPartsWrong : ChangeSpec := { name := "fnUnifyParts", fn := fun _ => fun
  | [d] => { results := [.lit (.bool false)], args := [d] }
  | _ => none }
def FnUnifyPartsWrongFalsely : Prop := fnUnifyPartsRow.holds Try.pinned (OpenSpec.ofChange fnUnifyPartsWrong)

/-- 'laws.FnExactUnifyOf': WHATEVER THE INPUT: true; the input reads as it did. -/
def fnExactUnifyOfSpec : ChangeSpec := { name := "fnExactUnifyOf", fn := fun _ => fun
  | [d1, d2] => { results := [.lit (.bool true)], args := [d1, d2] }
  | _ => none }
def fnExactUnifyOfRow : OpenClaim := { program := "ytpfkhgiiojikbaa", sum := "a6a7a561813ec2f359d55455d4ffada5c9ae152e0301df82a4ef0305fc237b55", func := "loop.example/tipstaff/laws.FnExactUnifyOf", spec := "fnExactUnifyOf", unfollowed := true, recurses := true, loops := true, apart := false }
def FnExactUnifyOfSaid : Prop := fnExactUnifyOfRow.holds Try.pinned (OpenSpec.ofChange fnExactUnifyOfSpec)

/-- ITS FALSE NEIGHBOUR: 'it returns false'. Refute it at one input. -/
def fnExactUnifyOfWrong : ChangeSpec := { name := "fnExactUnifyOf", fn := fun _ => fun
  | [d1, d2] => { results := [.lit (.bool false)], args := [d1, d2] }
  | _ => none }
def FnExactUnifyOfWrongFalsely : Prop := fnExactUnifyOfRow.holds Try.pinned (OpenSpec.ofChange fnExactUnifyOfWrong)

/- THE SECOND FORM. 'bulk': how many values and letters a reading holds, each counted each time it is reached (what is shared counts as often as it is met; a slice's spare places count too). A statement '..UptoSaid' is the law's where the arguments, and the package variables that the reading takes, are together of bulk at most 1048576: NARROWER than '..Said'. Prove '..Said' where nothing that the law and all that it calls make is longer than what came in: it says more and counts as full. Else prove '..UptoSaid'. A law counts once. -/
mutual
def uptoBulk {H : Type} : DataW H → Nat
  | .lit (.string bytes) => bytes.length + 1
  | .lit _ => 1
  | .nil => 1
  | .ptr d => uptoBulk d + 1
  | .slice elems spare => uptoBulkAll elems + uptoBulkAll spare + 1
  | .agg parts => uptoBulkAll parts + 1
  | .iface _ d => uptoBulk d + 1
  | .map entries => uptoBulkEntries entries + 1
  | .held _ => 1
def uptoBulkAll {H : Type} : List (DataW H) → Nat
  | [] => 0
  | d :: r => uptoBulk d + uptoBulkAll r
def uptoBulkEntries {H : Type} : List (Lit × DataW H) → Nat
  | [] => 0
  | x :: r => uptoBulkEntry x + uptoBulkEntries r
def uptoBulkEntry {H : Type} : Lit × DataW H → Nat
  | (.string bytes, d) => bytes.length + uptoBulk d + 1
  | (_, d) => uptoBulk d + 1
 end
def uptoSmall : (H : Type) → List (DataW H) → Bool := fun _ ds => decide (uptoBulkAll ds ≤ 1048576)
def OpenSpec.upto (s : _root_.Go.ChangeSpec) : _root_.Go.OpenSpec := { _root_.Go.OpenSpec.ofChange s with cond := some uptoSmall }

/-- 'laws.FnSubstThen', WHERE WHAT IT READS IS OF BULK AT MOST 1048576: true; the input reads as it did. -/
def fnSubstThenUptoRow : OpenClaim := { program := "ytpfkhgiiojikbaa", sum := "a6a7a561813ec2f359d55455d4ffada5c9ae152e0301df82a4ef0305fc237b55", func := "loop.example/tipstaff/laws.FnSubstThen", spec := "fnSubstThen", inPlace := ["maps.clone"], unfollowed := true, recurses := true, apart := false, narrowed := true }
def FnSubstThenUptoSaid : Prop := fnSubstThenUptoRow.holds Try.pinned (OpenSpec.upto fnSubstThenSpec)

/-- 'laws.FnSubstThenThree', WHERE WHAT IT READS IS OF BULK AT MOST 1048576: true; the input reads as it did. -/
def fnSubstThenThreeUptoRow : OpenClaim := { program := "ytpfkhgiiojikbaa", sum := "a6a7a561813ec2f359d55455d4ffada5c9ae152e0301df82a4ef0305fc237b55", func := "loop.example/tipstaff/laws.FnSubstThenThree", spec := "fnSubstThenThree", inPlace := ["maps.clone"], unfollowed := true, recurses := true, apart := false, narrowed := true }
def FnSubstThenThreeUptoSaid : Prop := fnSubstThenThreeUptoRow.holds Try.pinned (OpenSpec.upto fnSubstThenThreeSpec)

/-- 'laws.FnExactSubstThen', WHERE WHAT IT READS IS OF BULK AT MOST 1048576: true; the input reads as it did. -/
def fnExactSubstThenUptoRow : OpenClaim := { program := "ytpfkhgiiojikbaa", sum := "a6a7a561813ec2f359d55455d4ffada5c9ae152e0301df82a4ef0305fc237b55", func := "loop.example/tipstaff/laws.FnExactSubstThen", spec := "fnExactSubstThen", inPlace := ["maps.clone"], unfollowed := true, recurses := true, loops := true, apart := false, narrowed := true }
def FnExactSubstThenUptoSaid : Prop := fnExactSubstThenUptoRow.holds Try.pinned (OpenSpec.upto fnExactSubstThenSpec)

/-- 'laws.FnUnifyOf', WHERE WHAT IT READS IS OF BULK AT MOST 1048576: true; the input reads as it did. -/
def fnUnifyOfUptoRow : OpenClaim := { program := "ytpfkhgiiojikbaa", sum := "a6a7a561813ec2f359d55455d4ffada5c9ae152e0301df82a4ef0305fc237b55", func := "loop.example/tipstaff/laws.FnUnifyOf", spec := "fnUnifyOf", unfollowed := true, recurses := true, apart := false, narrowed := true }
def FnUnifyOfUptoSaid : Prop := fnUnifyOfUptoRow.holds Try.pinned (OpenSpec.upto fnUnifyOfSpec)

/-- 'laws.FnUnifyMost', WHERE WHAT IT READS IS OF BULK AT MOST 1048576: true; the input reads as it did. -/
def fnUnifyMostUptoRow : OpenClaim := { program := "ytpfkhgiiojikbaa", sum := "a6a7a561813ec2f359d55455d4ffada5c9ae152e0301df82a4ef0305fc237b55", func := "loop.example/tipstaff/laws.FnUnifyMost", spec := "fnUnifyMost", unfollowed := true, recurses := true, apart := false, narrowed := true }
def FnUnifyMostUptoSaid : Prop := fnUnifyMostUptoRow.holds Try.pinned (OpenSpec.upto fnUnifyMostSpec)

/-- 'laws.FnUnifyTurn', WHERE WHAT IT READS IS OF BULK AT MOST 1048576: true; the input reads as it did. -/
def fnUnifyTurnUptoRow : OpenClaim := { program := "ytpfkhgiiojikbaa", sum := "a6a7a561813ec2f359d55455d4ffada5c9ae152e0301df82a4ef0305fc237b55", func := "loop.example/tipstaff/laws.FnUnifyTurn", spec := "fnUnifyTurn", unfollowed := true, recurses := true, apart := false, narrowed := true }
def FnUnifyTurnUptoSaid : Prop := fnUnifyTurnUptoRow.holds Try.pinned (OpenSpec.upto fnUnifyTurnSpec)

/-- 'laws.FnUnifySelf', WHERE WHAT IT READS IS OF BULK AT MOST 1048576: true; the input reads as it did. -/
def fnUnifySelfUptoRow : OpenClaim := { program := "ytpfkhgiiojikbaa", sum := "a6a7a561813ec2f359d55455d4ffada5c9ae152e0301df82a4ef0305fc237b55", func := "loop.example/tipstaff/laws.FnUnifySelf", spec := "fnUnifySelf", unfollowed := true, recurses := true, apart := false, narrowed := true }
def FnUnifySelfUptoSaid : Prop := fnUnifySelfUptoRow.holds Try.pinned (OpenSpec.upto fnUnifySelfSpec)

/-- 'laws.FnUnifyIn', WHERE WHAT IT READS IS OF BULK AT MOST 1048576: true; the input reads as it did. -/
def fnUnifyInUptoRow : OpenClaim := { program := "ytpfkhgiiojikbaa", sum := "a6a7a561813ec2f359d55455d4ffada5c9ae152e0301df82a4ef0305fc237b55", func := "loop.example/tipstaff/laws.FnUnifyIn", spec := "fnUnifyIn", unfollowed := true, recurses := true, apart := false, narrowed := true }
def FnUnifyInUptoSaid : Prop := fnUnifyInUptoRow.holds Try.pinned (OpenSpec.upto fnUnifyInSpec)

/-- 'laws.FnUnifyParts', WHERE WHAT IT READS IS OF BULK AT MOST 1048576: true; the input reads as it did. -/
def fnUnifyPartsUptoRow : OpenClaim := { program := "ytpfkhgiiojikbaa", sum := "a6a7a561813ec2f359d55455d4ffada5c9ae152e0301df82a4ef0305fc237b55", func := "loop.example/tipstaff/laws.FnUnifyParts", spec := "fnUnifyParts", unfollowed := true, recurses := true, apart := false, narrowed := true }
def FnUnifyPartsUptoSaid : Prop := fnUnifyPartsUptoRow.holds Try.pinned (OpenSpec.upto fnUnifyPartsSpec)

/-- 'laws.FnExactUnifyOf', WHERE WHAT IT READS IS OF BULK AT MOST 1048576: true; the input reads as it did. -/
def fnExactUnifyOfUptoRow : OpenClaim := { program := "ytpfkhgiiojikbaa", sum := "a6a7a561813ec2f359d55455d4ffada5c9ae152e0301df82a4ef0305fc237b55", func := "loop.example/tipstaff/laws.FnExactUnifyOf", spec := "fnExactUnifyOf", unfollowed := true, recurses := true, loops := true, apart := false, narrowed := true }
def FnExactUnifyOfUptoSaid : Prop := fnExactUnifyOfUptoRow.holds Try.pinned (OpenSpec.upto fnExactUnifyOfSpec)

end Rows
end Go.Proofs.Ytpfkhgiiojikbaa
