/-
  No cell of these rows narrows 'for every input' (looked for: loops, veiled, ifaces, maps, wideKeys, modest, calm, conditions, laid).
  DERIVED. THE GIVEN ROWS OF THIS SEAT. 6 by the template 'for every input the law returns true; each argument reads behind the call as it read before'; 0 by the template 'total and deterministic' (their statements: YtbgjdkpdjclagaaTotals.lean).
  GIVEN WITH THE SEED: the statements are not yours to turn. If you find one false, say at which input.
  Laid BY PROGRAM, IN A SANDBOX (cutbox-rows.mjs): the forced cells as the released guide's own fill.sh prints them over the translation d2e33776300cf2e5… (all of the seat's roots in one cut). By AI agents, Wed Nov 11 2026. No macro, syntax, notation, axiom, sorry.
-/
import Derived.Test.YtbgjdkpdjclagaaChecked
import GoSem.Claim
import GoSem.ClaimJoined
import GoSem.ClaimMapViews
import Derived.JoinedTies
import Derived.KernelRfl
namespace Go.Proofs.Ytbgjdkpdjclagaa
/- THE CELL 'sum', in the pinned program and in every row, IS THE sha256 OF THE DUMP (.gsa) THAT YtbgjdkpdjclagaaProg.lean LOADS. Nothing in Lean hashes anything: it is a label: what it is worth is what the hold of that sum in a sandbox is worth. -/
noncomputable def Try.pinned : Pinned := { name := "ytbgjdkpdjclagaa", sum := "d2e33776300cf2e5ccff55d552f04bc66b8d10b259b2dd91f0398fee8ff1d1cc", checked := Try.checked }
namespace Rows
def none {H : Type} : Left H := { results := [], args := [] }

/-- 'laws.FnOrderPart': WHATEVER THE INPUT: true; the input reads as it did. -/
def fnOrderPartSpec : ChangeSpec := { name := "fnOrderPart", fn := fun _ => fun
  | [d] => { results := [.lit (.bool true)], args := [d] }
  | _ => none }
def fnOrderPartRow : OpenClaim := { program := "ytbgjdkpdjclagaa", sum := "d2e33776300cf2e5ccff55d552f04bc66b8d10b259b2dd91f0398fee8ff1d1cc", func := "loop.example/tipstaff/laws.FnOrderPart", spec := "fnOrderPart", unfollowed := true, recurses := true, apart := false }
def FnOrderPartSaid : Prop := fnOrderPartRow.holds Try.pinned (OpenSpec.ofChange fnOrderPartSpec)

/-- ITS FALSE NEIGHBOUR: 'it returns false'. Refute it at one input. -/
def fnOrderPartWrong : ChangeSpec := { name := "fnOrderPart", fn := fun _ => fun
  | [d] => { results := [.lit (.bool false)], args := [d] }
  | _ => none }
def FnOrderPartWrongFalsely : Prop := fnOrderPartRow.holds Try.pinned (OpenSpec.ofChange fnOrderPartWrong)

/-- 'laws.FnOrderPut': WHATEVER THE INPUT: true; the input reads as it did. -/
def fnOrderPutSpec : ChangeSpec := { name := "fnOrderPut", fn := fun _ => fun
  | [d1, d2] => { results := [.lit (.bool true)], args := [d1, d2] }
  | _ => none }
def fnOrderPutRow : OpenClaim := { program := "ytbgjdkpdjclagaa", sum := "d2e33776300cf2e5ccff55d552f04bc66b8d10b259b2dd91f0398fee8ff1d1cc", func := "loop.example/tipstaff/laws.FnOrderPut", spec := "fnOrderPut", unfollowed := true, recurses := true, apart := false }
def FnOrderPutSaid : Prop := fnOrderPutRow.holds Try.pinned (OpenSpec.ofChange fnOrderPutSpec)

/-- ITS FALSE NEIGHBOUR: 'it returns false'. Refute it at one input. -/
def fnOrderPutWrong : ChangeSpec := { name := "fnOrderPut", fn := fun _ => fun
  | [d1, d2] => { results := [.lit (.bool false)], args := [d1, d2] }
  | _ => none }
def FnOrderPutWrongFalsely : Prop := fnOrderPutRow.holds Try.pinned (OpenSpec.ofChange fnOrderPutWrong)

/-- 'laws.FnOrderRank': WHATEVER THE INPUT: true; the input reads as it did. -/
def fnOrderRankSpec : ChangeSpec := { name := "fnOrderRank", fn := fun _ => fun
  | [d] => { results := [.lit (.bool true)], args := [d] }
  | _ => none }
def fnOrderRankRow : OpenClaim := { program := "ytbgjdkpdjclagaa", sum := "d2e33776300cf2e5ccff55d552f04bc66b8d10b259b2dd91f0398fee8ff1d1cc", func := "loop.example/tipstaff/laws.FnOrderRank", spec := "fnOrderRank", unfollowed := true, recurses := true, apart := false }
def FnOrderRankSaid : Prop := fnOrderRankRow.holds Try.pinned (OpenSpec.ofChange fnOrderRankSpec)

/-- ITS FALSE NEIGHBOUR: 'it returns false'. Refute it at one input. -/
def fnOrderRankWrong : ChangeSpec := { name := "fnOrderRank", fn := fun _ => fun
  | [d] => { results := [.lit (.bool false)], args := [d] }
  | _ => none }
def FnOrderRankWrongFalsely : Prop := fnOrderRankRow.holds Try.pinned (OpenSpec.ofChange fnOrderRankWrong)

/-- 'laws.FnOrderSelf': WHATEVER THE INPUT: true; the input reads as it did. -/
def fnOrderSelfSpec : ChangeSpec := { name := "fnOrderSelf", fn := fun _ => fun
  | [d] => { results := [.lit (.bool true)], args := [d] }
  | _ => none }
def fnOrderSelfRow : OpenClaim := { program := "ytbgjdkpdjclagaa", sum := "d2e33776300cf2e5ccff55d552f04bc66b8d10b259b2dd91f0398fee8ff1d1cc", func := "loop.example/tipstaff/laws.FnOrderSelf", spec := "fnOrderSelf", unfollowed := true, recurses := true, apart := false }
def FnOrderSelfSaid : Prop := fnOrderSelfRow.holds Try.pinned (OpenSpec.ofChange fnOrderSelfSpec)

/-- ITS FALSE NEIGHBOUR: 'it returns false'. Refute it at one input. -/
def fnOrderSelfWrong : ChangeSpec := { name := "fnOrderSelf", fn := fun _ => fun
  | [d] => { results := [.lit (.bool false)], args := [d] }
  | _ => none }
def FnOrderSelfWrongFalsely : Prop := fnOrderSelfRow.holds Try.pinned (OpenSpec.ofChange fnOrderSelfWrong)

/-- 'laws.FnOrderThree': WHATEVER THE INPUT: true; the input reads as it did. -/
def fnOrderThreeSpec : ChangeSpec := { name := "fnOrderThree", fn := fun _ => fun
  | [d1, d2] => { results := [.lit (.bool true)], args := [d1, d2] }
  | _ => none }
def fnOrderThreeRow : OpenClaim := { program := "ytbgjdkpdjclagaa", sum := "d2e33776300cf2e5ccff55d552f04bc66b8d10b259b2dd91f0398fee8ff1d1cc", func := "loop.example/tipstaff/laws.FnOrderThree", spec := "fnOrderThree", unfollowed := true, recurses := true, apart := false }
def FnOrderThreeSaid : Prop := fnOrderThreeRow.holds Try.pinned (OpenSpec.ofChange fnOrderThreeSpec)

/-- ITS FALSE NEIGHBOUR: 'it returns false'. Refute it at one input. -/
def fnOrderThreeWrong : ChangeSpec := { name := "fnOrderThree", fn := fun _ => fun
  | [d1, d2] => { results := [.lit (.bool false)], args := [d1, d2] }
  | _ => none }
def FnOrderThreeWrongFalsely : Prop := fnOrderThreeRow.holds Try.pinned (OpenSpec.ofChange fnOrderThreeWrong)

/-- 'laws.FnOrderUnder': WHATEVER THE INPUT: true; the input reads as it did. -/
def fnOrderUnderSpec : ChangeSpec := { name := "fnOrderUnder", fn := fun _ => fun
  | [d1, d2] => { results := [.lit (.bool true)], args := [d1, d2] }
  | _ => none }
def fnOrderUnderRow : OpenClaim := { program := "ytbgjdkpdjclagaa", sum := "d2e33776300cf2e5ccff55d552f04bc66b8d10b259b2dd91f0398fee8ff1d1cc", func := "loop.example/tipstaff/laws.FnOrderUnder", spec := "fnOrderUnder", unfollowed := true, recurses := true, apart := false }
def FnOrderUnderSaid : Prop := fnOrderUnderRow.holds Try.pinned (OpenSpec.ofChange fnOrderUnderSpec)

/-- ITS FALSE NEIGHBOUR: 'it returns false'. Refute it at one input. -/
def fnOrderUnderWrong : ChangeSpec := { name := "fnOrderUnder", fn := fun _ => fun
  | [d1, d2] => { results := [.lit (.bool false)], args := [d1, d2] }
  | _ => none }
def FnOrderUnderWrongFalsely : Prop := fnOrderUnderRow.holds Try.pinned (OpenSpec.ofChange fnOrderUnderWrong)

/- THE SECOND FORM. 'bulk': how many values and letters a reading holds, each counted each time it is reached (what is shared counts as often as it is met; a slice's spare places count too). A statement '..UptoSaid' is the law's where the arguments, and the package variables that the reading takes, are together of bulk at most 1048576: NARROWER than '..Said'. Prove '..Said' where nothing that the law and all that it calls make is longer than what came in: it says more and counts as full. Else prove '..UptoSaid'. A law counts once. -/
mutual
def uptoBulk {H : Type} : DataW H → Nat
  | .lit (.string bytes) => bytes.length + 1
  | .lit _ => 1
  | .nil => 1
  | .ptr d => uptoBulk d + 1
  | .slice elems spare => uptoBulkAll elems + uptoBulkAll spare + 1
  | .agg parts => uptoBulkAll parts + 1
  | .iface _ d => uptoBulk d + 1
  | .map entries => uptoBulkEntries entries + 1
  | .held _ => 1
def uptoBulkAll {H : Type} : List (DataW H) → Nat
  | [] => 0
  | d :: r => uptoBulk d + uptoBulkAll r
def uptoBulkEntries {H : Type} : List (Lit × DataW H) → Nat
  | [] => 0
  | x :: r => uptoBulkEntry x + uptoBulkEntries r
def uptoBulkEntry {H : Type} : Lit × DataW H → Nat
  | (.string bytes, d) => bytes.length + uptoBulk d + 1
  | (_, d) => uptoBulk d + 1
 end
def uptoSmall : (H : Type) → List (DataW H) → Bool := fun _ ds => decide (uptoBulkAll ds ≤ 1048576)
def OpenSpec.upto (s : _root_.Go.ChangeSpec) : _root_.Go.OpenSpec := { _root_.Go.OpenSpec.ofChange s with cond := some uptoSmall }

/-- 'laws.FnOrderPart', WHERE WHAT IT READS IS OF BULK AT MOST 1048576: true; the input reads as it did. -/
def fnOrderPartUptoRow : OpenClaim := { program := "ytbgjdkpdjclagaa", sum := "d2e33776300cf2e5ccff55d552f04bc66b8d10b259b2dd91f0398fee8ff1d1cc", func := "loop.example/tipstaff/laws.FnOrderPart", spec := "fnOrderPart", unfollowed := true, recurses := true, apart := false, narrowed := true }
def FnOrderPartUptoSaid : Prop := fnOrderPartUptoRow.holds Try.pinned (OpenSpec.upto fnOrderPartSpec)

/-- 'laws.FnOrderPut', WHERE WHAT IT READS IS OF BULK AT MOST 1048576: true; the input reads as it did. -/
def fnOrderPutUptoRow : OpenClaim := { program := "ytbgjdkpdjclagaa", sum := "d2e33776300cf2e5ccff55d552f04bc66b8d10b259b2dd91f0398fee8ff1d1cc", func := "loop.example/tipstaff/laws.FnOrderPut", spec := "fnOrderPut", unfollowed := true, recurses := true, apart := false, narrowed := true }
def FnOrderPutUptoSaid : Prop := fnOrderPutUptoRow.holds Try.pinned (OpenSpec.upto fnOrderPutSpec)

/-- 'laws.FnOrderRank', WHERE WHAT IT READS IS OF BULK AT MOST 1048576: true; the input reads as it did. -/
def fnOrderRankUptoRow : OpenClaim := { program := "ytbgjdkpdjclagaa", sum := "d2e33776300cf2e5ccff55d552f04bc66b8d10b259b2dd91f0398fee8ff1d1cc", func := "loop.example/tipstaff/laws.FnOrderRank", spec := "fnOrderRank", unfollowed := true, recurses := true, apart := false, narrowed := true }
def FnOrderRankUptoSaid : Prop := fnOrderRankUptoRow.holds Try.pinned (OpenSpec.upto fnOrderRankSpec)

/-- 'laws.FnOrderSelf', WHERE WHAT IT READS IS OF BULK AT MOST 1048576: true; the input reads as it did. -/
def fnOrderSelfUptoRow : OpenClaim := { program := "ytbgjdkpdjclagaa", sum := "d2e33776300cf2e5ccff55d552f04bc66b8d10b259b2dd91f0398fee8ff1d1cc", func := "loop.example/tipstaff/laws.FnOrderSelf", spec := "fnOrderSelf", unfollowed := true, recurses := true, apart := false, narrowed := true }
def FnOrderSelfUptoSaid : Prop := fnOrderSelfUptoRow.holds Try.pinned (OpenSpec.upto fnOrderSelfSpec)

/-- 'laws.FnOrderThree', WHERE WHAT IT READS IS OF BULK AT MOST 1048576: true; the input reads as it did. -/
def fnOrderThreeUptoRow : OpenClaim := { program := "ytbgjdkpdjclagaa", sum := "d2e33776300cf2e5ccff55d552f04bc66b8d10b259b2dd91f0398fee8ff1d1cc", func := "loop.example/tipstaff/laws.FnOrderThree", spec := "fnOrderThree", unfollowed := true, recurses := true, apart := false, narrowed := true }
def FnOrderThreeUptoSaid : Prop := fnOrderThreeUptoRow.holds Try.pinned (OpenSpec.upto fnOrderThreeSpec)

/-- 'laws.FnOrderUnder', WHERE WHAT IT READS IS OF BULK AT MOST 1048576: true; the input reads as it did. -/
def fnOrderUnderUptoRow : OpenClaim := { program := "ytbgjdkpdjclagaa", sum := "d2e33776300cf2e5ccff55d552f04bc66b8d10b259b2dd91f0398fee8ff1d1cc", func := "loop.example/tipstaff/laws.FnOrderUnder", spec := "fnOrderUnder", unfollowed := true, recurses := true, apart := false, narrowed := true }
def FnOrderUnderUptoSaid : Prop := fnOrderUnderUptoRow.holds Try.pinned (OpenSpec.upto fnOrderUnderSpec)

end Rows
end Go.Proofs.Ytbgjdkpdjclagaa
