/-
  NARROWER THAN 'FOR EVERY INPUT', by the rows' own cells (each row's printed sentence says how): FnExactOrderMore: loops · FnExactTermText: loops.
  DERIVED. THE GIVEN ROWS OF THIS SEAT. 4 by the template 'for every input the law returns true; each argument reads behind the call as it read before'; 0 by the template 'total and deterministic' (their statements: YtbgjdkpdjclagabTotals.lean).
  GIVEN WITH THE SEED: the statements are not yours to turn. If you find one false, say at which input.
  Laid BY PROGRAM, IN A SANDBOX (cutbox-rows.mjs): the forced cells as the released guide's own fill.sh prints them over the translation a7b1895ef2cbe6a0… (all of the seat's roots in one cut). By AI agents, Wed Nov 11 2026. No macro, syntax, notation, axiom, sorry.
-/
import Derived.Test.YtbgjdkpdjclagabChecked
import GoSem.Claim
import GoSem.ClaimJoined
import GoSem.ClaimMapViews
import Derived.JoinedTies
import Derived.KernelRfl
namespace Go.Proofs.Ytbgjdkpdjclagab
/- THE CELL 'sum', in the pinned program and in every row, IS THE sha256 OF THE DUMP (.gsa) THAT YtbgjdkpdjclagabProg.lean LOADS. Nothing in Lean hashes anything: it is a label: what it is worth is what the hold of that sum in a sandbox is worth. -/
noncomputable def Try.pinned : Pinned := { name := "ytbgjdkpdjclagab", sum := "a7b1895ef2cbe6a06622dfdc2f8e5672352d24e8e5b8864b7482108532fe9cb3", checked := Try.checked }
namespace Rows
def none {H : Type} : Left H := { results := [], args := [] }

/-- 'laws.FnOrderVars': WHATEVER THE INPUT: true; the input reads as it did. -/
def fnOrderVarsSpec : ChangeSpec := { name := "fnOrderVars", fn := fun _ => fun
  | [d] => { results := [.lit (.bool true)], args := [d] }
  | _ => none }
def fnOrderVarsRow : OpenClaim := { program := "ytbgjdkpdjclagab", sum := "a7b1895ef2cbe6a06622dfdc2f8e5672352d24e8e5b8864b7482108532fe9cb3", func := "loop.example/tipstaff/laws.FnOrderVars", spec := "fnOrderVars", unfollowed := true, recurses := true, apart := false }
def FnOrderVarsSaid : Prop := fnOrderVarsRow.holds Try.pinned (OpenSpec.ofChange fnOrderVarsSpec)

/-- ITS FALSE NEIGHBOUR: 'it returns false'. Refute it at one input. -/
def fnOrderVarsWrong : ChangeSpec := { name := "fnOrderVars", fn := fun _ => fun
  | [d] => { results := [.lit (.bool false)], args := [d] }
  | _ => none }
def FnOrderVarsWrongFalsely : Prop := fnOrderVarsRow.holds Try.pinned (OpenSpec.ofChange fnOrderVarsWrong)

/-- 'laws.FnExactOrderMore': WHATEVER THE INPUT: true; the input reads as it did. -/
def fnExactOrderMoreSpec : ChangeSpec := { name := "fnExactOrderMore", fn := fun _ => fun
  | [d1, d2, d3] => { results := [.lit (.bool true)], args := [d1, d2, d3] }
  | _ => none }
def fnExactOrderMoreRow : OpenClaim := { program := "ytbgjdkpdjclagab", sum := "a7b1895ef2cbe6a06622dfdc2f8e5672352d24e8e5b8864b7482108532fe9cb3", func := "loop.example/tipstaff/laws.FnExactOrderMore", spec := "fnExactOrderMore", unfollowed := true, recurses := true, loops := true, apart := false }
def FnExactOrderMoreSaid : Prop := fnExactOrderMoreRow.holds Try.pinned (OpenSpec.ofChange fnExactOrderMoreSpec)

/-- ITS FALSE NEIGHBOUR: 'it returns false'. Refute it at one input. -/
def fnExactOrderMoreWrong : ChangeSpec := { name := "fnExactOrderMore", fn := fun _ => fun
  | [d1, d2, d3] => { results := [.lit (.bool false)], args := [d1, d2, d3] }
  | _ => none }
def FnExactOrderMoreWrongFalsely : Prop := fnExactOrderMoreRow.holds Try.pinned (OpenSpec.ofChange fnExactOrderMoreWrong)

/-- 'laws.FnExactOrderOk': WHATEVER THE INPUT: true; the input reads as it did. -/
def fnExactOrderOkSpec : ChangeSpec := { name := "fnExactOrderOk", fn := fun _ => fun
  | [d] => { results := [.lit (.bool true)], args := [d] }
  | _ => none }
def fnExactOrderOkRow : OpenClaim := { program := "ytbgjdkpdjclagab", sum := "a7b1895ef2cbe6a06622dfdc2f8e5672352d24e8e5b8864b7482108532fe9cb3", func := "loop.example/tipstaff/laws.FnExactOrderOk", spec := "fnExactOrderOk", apart := false }
def FnExactOrderOkSaid : Prop := fnExactOrderOkRow.holds Try.pinned (OpenSpec.ofChange fnExactOrderOkSpec)

/-- ITS FALSE NEIGHBOUR: 'it returns false'. Refute it at one input. -/
def fnExactOrderOkWrong : ChangeSpec := { name := "fnExactOrderOk", fn := fun _ => fun
  | [d] => { results := [.lit (.bool false)], args := [d] }
  | _ => none }
def FnExactOrderOkWrongFalsely : Prop := fnExactOrderOkRow.holds Try.pinned (OpenSpec.ofChange fnExactOrderOkWrong)

/-- 'laws.FnExactTermText': WHATEVER THE INPUT: true; the input reads as it did. -/
def fnExactTermTextSpec : ChangeSpec := { name := "fnExactTermText", fn := fun _ => fun
  | [d] => { results := [.lit (.bool true)], args := [d] }
  | _ => none }
def fnExactTermTextRow : OpenClaim := { program := "ytbgjdkpdjclagab", sum := "a7b1895ef2cbe6a06622dfdc2f8e5672352d24e8e5b8864b7482108532fe9cb3", func := "loop.example/tipstaff/laws.FnExactTermText", spec := "fnExactTermText", unfollowed := true, recurses := true, loops := true, apart := false }
def FnExactTermTextSaid : Prop := fnExactTermTextRow.holds Try.pinned (OpenSpec.ofChange fnExactTermTextSpec)

/-- ITS FALSE NEIGHBOUR: 'it returns false'. Refute it at one input. -/
def fnExactTermTextWrong : ChangeSpec := { name := "fnExactTermText", fn := fun _ => fun
  | [d] => { results := [.lit (.bool false)], args := [d] }
  | _ => none }
def FnExactTermTextWrongFalsely : Prop := fnExactTermTextRow.holds Try.pinned (OpenSpec.ofChange fnExactTermTextWrong)

/- THE SECOND FORM. 'bulk': how many values and letters a reading holds, each counted each time it is reached (what is shared counts as often as it is met; a slice's spare places count too). A statement '..UptoSaid' is the law's where the arguments, and the package variables that the reading takes, are together of bulk at most 1048576: NARROWER than '..Said'. Prove '..Said' where nothing that the law and all that it calls make is longer than what came in: it says more and counts as full. Else prove '..UptoSaid'. A law counts once. -/
mutual
def uptoBulk {H : Type} : DataW H → Nat
  | .lit (.string bytes) => bytes.length + 1
  | .lit _ => 1
  | .nil => 1
  | .ptr d => uptoBulk d + 1
  | .slice elems spare => uptoBulkAll elems + uptoBulkAll spare + 1
  | .agg parts => uptoBulkAll parts + 1
  | .iface _ d => uptoBulk d + 1
  | .map entries => uptoBulkEntries entries + 1
  | .held _ => 1
def uptoBulkAll {H : Type} : List (DataW H) → Nat
  | [] => 0
  | d :: r => uptoBulk d + uptoBulkAll r
def uptoBulkEntries {H : Type} : List (Lit × DataW H) → Nat
  | [] => 0
  | x :: r => uptoBulkEntry x + uptoBulkEntries r
def uptoBulkEntry {H : Type} : Lit × DataW H → Nat
  | (.string bytes, d) => bytes.length + uptoBulk d + 1
  | (_, d) => uptoBulk d + 1
 end
def uptoSmall : (H : Type) → List (DataW H) → Bool := fun _ ds => decide (uptoBulkAll ds ≤ 1048576)
def OpenSpec.upto (s : _root_.Go.ChangeSpec) : _root_.Go.OpenSpec := { _root_.Go.OpenSpec.ofChange s with cond := some uptoSmall }

/-- 'laws.FnOrderVars', WHERE WHAT IT READS IS OF BULK AT MOST 1048576: true; the input reads as it did. -/
def fnOrderVarsUptoRow : OpenClaim := { program := "ytbgjdkpdjclagab", sum := "a7b1895ef2cbe6a06622dfdc2f8e5672352d24e8e5b8864b7482108532fe9cb3", func := "loop.example/tipstaff/laws.FnOrderVars", spec := "fnOrderVars", unfollowed := true, recurses := true, apart := false, narrowed := true }
def FnOrderVarsUptoSaid : Prop := fnOrderVarsUptoRow.holds Try.pinned (OpenSpec.upto fnOrderVarsSpec)

/-- 'laws.FnExactOrderMore', WHERE WHAT IT READS IS OF BULK AT MOST 1048576: true; the input reads as it did. -/
def fnExactOrderMoreUptoRow : OpenClaim := { program := "ytbgjdkpdjclagab", sum := "a7b1895ef2cbe6a06622dfdc2f8e5672352d24e8e5b8864b7482108532fe9cb3", func := "loop.example/tipstaff/laws.FnExactOrderMore", spec := "fnExactOrderMore", unfollowed := true, recurses := true, loops := true, apart := false, narrowed := true }
def FnExactOrderMoreUptoSaid : Prop := fnExactOrderMoreUptoRow.holds Try.pinned (OpenSpec.upto fnExactOrderMoreSpec)

/-- 'laws.FnExactOrderOk', WHERE WHAT IT READS IS OF BULK AT MOST 1048576: true; the input reads as it did. -/
def fnExactOrderOkUptoRow : OpenClaim := { program := "ytbgjdkpdjclagab", sum := "a7b1895ef2cbe6a06622dfdc2f8e5672352d24e8e5b8864b7482108532fe9cb3", func := "loop.example/tipstaff/laws.FnExactOrderOk", spec := "fnExactOrderOk", apart := false, narrowed := true }
def FnExactOrderOkUptoSaid : Prop := fnExactOrderOkUptoRow.holds Try.pinned (OpenSpec.upto fnExactOrderOkSpec)

/-- 'laws.FnExactTermText', WHERE WHAT IT READS IS OF BULK AT MOST 1048576: true; the input reads as it did. -/
def fnExactTermTextUptoRow : OpenClaim := { program := "ytbgjdkpdjclagab", sum := "a7b1895ef2cbe6a06622dfdc2f8e5672352d24e8e5b8864b7482108532fe9cb3", func := "loop.example/tipstaff/laws.FnExactTermText", spec := "fnExactTermText", unfollowed := true, recurses := true, loops := true, apart := false, narrowed := true }
def FnExactTermTextUptoSaid : Prop := fnExactTermTextUptoRow.holds Try.pinned (OpenSpec.upto fnExactTermTextSpec)

end Rows
end Go.Proofs.Ytbgjdkpdjclagab
