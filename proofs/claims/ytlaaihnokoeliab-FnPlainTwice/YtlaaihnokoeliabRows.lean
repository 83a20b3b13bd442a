/-
  NARROWER THAN 'FOR EVERY INPUT', by the rows' own cells (each row's printed sentence says how): FnExactMatchOf: loops · FnExactTermPlain: loops.
  DERIVED. THE GIVEN ROWS OF THIS SEAT. 6 by the template 'for every input the law returns true; each argument reads behind the call as it read before'; 0 by the template 'total and deterministic' (their statements: YtlaaihnokoeliabTotals.lean).
  GIVEN WITH THE SEED: the statements are not yours to turn. If you find one false, say at which input.
  Laid BY PROGRAM, IN A SANDBOX (cutbox-rows.mjs): the forced cells as the released guide's own fill.sh prints them over the translation 6e87a98dbfd9afcc… (all of the seat's roots in one cut). By AI agents, Wed Nov 11 2026. No macro, syntax, notation, axiom, sorry.
-/
import Derived.Test.YtlaaihnokoeliabChecked
import GoSem.Claim
import GoSem.ClaimJoined
import GoSem.ClaimMapViews
import Derived.JoinedTies
import Derived.KernelRfl
namespace Go.Proofs.Ytlaaihnokoeliab
/- THE CELL 'sum', in the pinned program and in every row, IS THE sha256 OF THE DUMP (.gsa) THAT YtlaaihnokoeliabProg.lean LOADS. Nothing in Lean hashes anything: it is a label: what it is worth is what the hold of that sum in a sandbox is worth. -/
noncomputable def Try.pinned : Pinned := { name := "ytlaaihnokoeliab", sum := "6e87a98dbfd9afcc60bfa84ca4a3b3ce5b71b3953bcdd024162a054e8fdcea60", checked := Try.checked }
namespace Rows
def none {H : Type} : Left H := { results := [], args := [] }

/-- 'laws.FnPlainBack': WHATEVER THE INPUT: true; the input reads as it did. -/
def fnPlainBackSpec : ChangeSpec := { name := "fnPlainBack", fn := fun _ => fun
  | [d] => { results := [.lit (.bool true)], args := [d] }
  | _ => none }
def fnPlainBackRow : OpenClaim := { program := "ytlaaihnokoeliab", sum := "6e87a98dbfd9afcc60bfa84ca4a3b3ce5b71b3953bcdd024162a054e8fdcea60", func := "loop.example/tipstaff/laws.FnPlainBack", spec := "fnPlainBack", unfollowed := true, recurses := true, apart := false }
def FnPlainBackSaid : Prop := fnPlainBackRow.holds Try.pinned (OpenSpec.ofChange fnPlainBackSpec)

/-- ITS FALSE NEIGHBOUR: 'it returns false'. Refute it at one input. -/
def fnPlainBackWrong : ChangeSpec := { name := "fnPlainBack", fn := fun _ => fun
  | [d] => { results := [.lit (.bool false)], args := [d] }
  | _ => none }
def FnPlainBackWrongFalsely : Prop := fnPlainBackRow.holds Try.pinned (OpenSpec.ofChange fnPlainBackWrong)

/-- 'laws.FnPlainNames': WHATEVER THE INPUT: true; the input reads as it did. -/
def fnPlainNamesSpec : ChangeSpec := { name := "fnPlainNames", fn := fun _ => fun
  | [d] => { results := [.lit (.bool true)], args := [d] }
  | _ => none }
def fnPlainNamesRow : OpenClaim := { program := "ytlaaihnokoeliab", sum := "6e87a98dbfd9afcc60bfa84ca4a3b3ce5b71b3953bcdd024162a054e8fdcea60", func := "loop.example/tipstaff/laws.FnPlainNames", spec := "fnPlainNames", unfollowed := true, recurses := true, apart := false }
def FnPlainNamesSaid : Prop := fnPlainNamesRow.holds Try.pinned (OpenSpec.ofChange fnPlainNamesSpec)

/-- ITS FALSE NEIGHBOUR: 'it returns false'. Refute it at one input. -/
def fnPlainNamesWrong : ChangeSpec := { name := "fnPlainNames", fn := fun _ => fun
  | [d] => { results := [.lit (.bool false)], args := [d] }
  | _ => none }
def FnPlainNamesWrongFalsely : Prop := fnPlainNamesRow.holds Try.pinned (OpenSpec.ofChange fnPlainNamesWrong)

/-- 'laws.FnPlainSize': WHATEVER THE INPUT: true; the input reads as it did. -/
def fnPlainSizeSpec : ChangeSpec := { name := "fnPlainSize", fn := fun _ => fun
  | [d] => { results := [.lit (.bool true)], args := [d] }
  | _ => none }
def fnPlainSizeRow : OpenClaim := { program := "ytlaaihnokoeliab", sum := "6e87a98dbfd9afcc60bfa84ca4a3b3ce5b71b3953bcdd024162a054e8fdcea60", func := "loop.example/tipstaff/laws.FnPlainSize", spec := "fnPlainSize", unfollowed := true, recurses := true, apart := false }
def FnPlainSizeSaid : Prop := fnPlainSizeRow.holds Try.pinned (OpenSpec.ofChange fnPlainSizeSpec)

/-- ITS FALSE NEIGHBOUR: 'it returns false'. Refute it at one input. -/
def fnPlainSizeWrong : ChangeSpec := { name := "fnPlainSize", fn := fun _ => fun
  | [d] => { results := [.lit (.bool false)], args := [d] }
  | _ => none }
def FnPlainSizeWrongFalsely : Prop := fnPlainSizeRow.holds Try.pinned (OpenSpec.ofChange fnPlainSizeWrong)

/-- 'laws.FnPlainTwice': WHATEVER THE INPUT: true; the input reads as it did. -/
def fnPlainTwiceSpec : ChangeSpec := { name := "fnPlainTwice", fn := fun _ => fun
  | [d] => { results := [.lit (.bool true)], args := [d] }
  | _ => none }
def fnPlainTwiceRow : OpenClaim := { program := "ytlaaihnokoeliab", sum := "6e87a98dbfd9afcc60bfa84ca4a3b3ce5b71b3953bcdd024162a054e8fdcea60", func := "loop.example/tipstaff/laws.FnPlainTwice", spec := "fnPlainTwice", unfollowed := true, recurses := true, apart := false }
def FnPlainTwiceSaid : Prop := fnPlainTwiceRow.holds Try.pinned (OpenSpec.ofChange fnPlainTwiceSpec)

/-- ITS FALSE NEIGHBOUR: 'it returns false'. Refute it at one input. -/
def fnPlainTwiceWrong : ChangeSpec := { name := "fnPlainTwice", fn := fun _ => fun
  | [d] => { results := [.lit (.bool false)], args := [d] }
  | _ => none }
def FnPlainTwiceWrongFalsely : Prop := fnPlainTwiceRow.holds Try.pinned (OpenSpec.ofChange fnPlainTwiceWrong)

/-- 'laws.FnExactMatchOf': WHATEVER THE INPUT: true; the input reads as it did. -/
def fnExactMatchOfSpec : ChangeSpec := { name := "fnExactMatchOf", fn := fun _ => fun
  | [d1, d2] => { results := [.lit (.bool true)], args := [d1, d2] }
  | _ => none }
def fnExactMatchOfRow : OpenClaim := { program := "ytlaaihnokoeliab", sum := "6e87a98dbfd9afcc60bfa84ca4a3b3ce5b71b3953bcdd024162a054e8fdcea60", func := "loop.example/tipstaff/laws.FnExactMatchOf", spec := "fnExactMatchOf", unfollowed := true, recurses := true, loops := true, apart := false }
def FnExactMatchOfSaid : Prop := fnExactMatchOfRow.holds Try.pinned (OpenSpec.ofChange fnExactMatchOfSpec)

/-- ITS FALSE NEIGHBOUR: 'it returns false'. Refute it at one input. -/
def fnExactMatchOfWrong : ChangeSpec := { name := "fnExactMatchOf", fn := fun _ => fun
  | [d1, d2] => { results := [.lit (.bool false)], args := [d1, d2] }
  | _ => none }
def FnExactMatchOfWrongFalsely : Prop := fnExactMatchOfRow.holds Try.pinned (OpenSpec.ofChange fnExactMatchOfWrong)

/-- 'laws.FnExactTermPlain': WHATEVER THE INPUT: true; the input reads as it did. -/
def fnExactTermPlainSpec : ChangeSpec := { name := "fnExactTermPlain", fn := fun _ => fun
  | [d] => { results := [.lit (.bool true)], args := [d] }
  | _ => none }
def fnExactTermPlainRow : OpenClaim := { program := "ytlaaihnokoeliab", sum := "6e87a98dbfd9afcc60bfa84ca4a3b3ce5b71b3953bcdd024162a054e8fdcea60", func := "loop.example/tipstaff/laws.FnExactTermPlain", spec := "fnExactTermPlain", unfollowed := true, recurses := true, loops := true, apart := false }
def FnExactTermPlainSaid : Prop := fnExactTermPlainRow.holds Try.pinned (OpenSpec.ofChange fnExactTermPlainSpec)

/-- ITS FALSE NEIGHBOUR: 'it returns false'. Refute it at one input. -/
def fnExactTermPlainWrong : ChangeSpec := { name := "fnExactTermPlain", fn := fun _ => fun
  | [d] => { results := [.lit (.bool false)], args := [d] }
  | _ => none }
def FnExactTermPlainWrongFalsely : Prop := fnExactTermPlainRow.holds Try.pinned (OpenSpec.ofChange fnExactTermPlainWrong)

/- THE SECOND FORM. 'bulk': how many values and letters a reading holds, each counted each time it is reached (what is shared counts as often as it is met; a slice's spare places count too). A statement '..UptoSaid' is the law's where the arguments, and the package variables that the reading takes, are together of bulk at most 1048576: NARROWER than '..Said'. Prove '..Said' where nothing that the law and all that it calls make is longer than what came in: it says more and counts as full. Else prove '..UptoSaid'. A law counts once. -/
mutual
def uptoBulk {H : Type} : DataW H → Nat
  | .lit (.string bytes) => bytes.length + 1
  | .lit _ => 1
  | .nil => 1
  | .ptr d => uptoBulk d + 1
  | .slice elems spare => uptoBulkAll elems + uptoBulkAll spare + 1
  | .agg parts => uptoBulkAll parts + 1
  | .iface _ d => uptoBulk d + 1
  | .map entries => uptoBulkEntries entries + 1
  | .held _ => 1
def uptoBulkAll {H : Type} : List (DataW H) → Nat
  | [] => 0
  | d :: r => uptoBulk d + uptoBulkAll r
def uptoBulkEntries {H : Type} : List (Lit × DataW H) → Nat
  | [] => 0
  | x :: r => uptoBulkEntry x + uptoBulkEntries r
def uptoBulkEntry {H : Type} : Lit × DataW H → Nat
  | (.string bytes, d) => bytes.length + uptoBulk d + 1
  | (_, d) => uptoBulk d + 1
 end
def uptoSmall : (H : Type) → List (DataW H) → Bool := fun _ ds => decide (uptoBulkAll ds ≤ 1048576)
def OpenSpec.upto (s : _root_.Go.ChangeSpec) : _root_.Go.OpenSpec := { _root_.Go.OpenSpec.ofChange s with cond := some uptoSmall }

/-- 'laws.FnPlainBack', WHERE WHAT IT READS IS OF BULK AT MOST 1048576: true; the input reads as it did. -/
def fnPlainBackUptoRow : OpenClaim := { program := "ytlaaihnokoeliab", sum := "6e87a98dbfd9afcc60bfa84ca4a3b3ce5b71b3953bcdd024162a054e8fdcea60", func := "loop.example/tipstaff/laws.FnPlainBack", spec := "fnPlainBack", unfollowed := true, recurses := true, apart := false, narrowed := true }
def FnPlainBackUptoSaid : Prop := fnPlainBackUptoRow.holds Try.pinned (OpenSpec.upto fnPlainBackSpec)

/-- 'laws.FnPlainNames', WHERE WHAT IT READS IS OF BULK AT MOST 1048576: true; the input reads as it did. -/
def fnPlainNamesUptoRow : OpenClaim := { program := "ytlaaihnokoeliab", sum := "6e87a98dbfd9afcc60bfa84ca4a3b3ce5b71b3953bcdd024162a054e8fdcea60", func := "loop.example/tipstaff/laws.FnPlainNames", spec := "fnPlainNames", unfollowed := true, recurses := true, apart := false, narrowed := true }
def FnPlainNamesUptoSaid : Prop := fnPlainNamesUptoRow.holds Try.pinned (OpenSpec.upto fnPlainNamesSpec)

/-- 'laws.FnPlainSize', WHERE WHAT IT READS IS OF BULK AT MOST 1048576: true; the input reads as it did. -/
def fnPlainSizeUptoRow : OpenClaim := { program := "ytlaaihnokoeliab", sum := "6e87a98dbfd9afcc60bfa84ca4a3b3ce5b71b3953bcdd024162a054e8fdcea60", func := "loop.example/tipstaff/laws.FnPlainSize", spec := "fnPlainSize", unfollowed := true, recurses := true, apart := false, narrowed := true }
def FnPlainSizeUptoSaid : Prop := fnPlainSizeUptoRow.holds Try.pinned (OpenSpec.upto fnPlainSizeSpec)

/-- 'laws.FnPlainTwice', WHERE WHAT IT READS IS OF BULK AT MOST 1048576: true; the input reads as it did. -/
def fnPlainTwiceUptoRow : OpenClaim := { program := "ytlaaihnokoeliab", sum := "6e87a98dbfd9afcc60bfa84ca4a3b3ce5b71b3953bcdd024162a054e8fdcea60", func := "loop.example/tipstaff/laws.FnPlainTwice", spec := "fnPlainTwice", unfollowed := true, recurses := true, apart := false, narrowed := true }
def FnPlainTwiceUptoSaid : Prop := fnPlainTwiceUptoRow.holds Try.pinned (OpenSpec.upto fnPlainTwiceSpec)

/-- 'laws.FnExactMatchOf', WHERE WHAT IT READS IS OF BULK AT MOST 1048576: true; the input reads as it did. -/
def fnExactMatchOfUptoRow : OpenClaim := { program := "ytlaaihnokoeliab", sum := "6e87a98dbfd9afcc60bfa84ca4a3b3ce5b71b3953bcdd024162a054e8fdcea60", func := "loop.example/tipstaff/laws.FnExactMatchOf", spec := "fnExactMatchOf", unfollowed := true, recurses := true, loops := true, apart := false, narrowed := true }
def FnExactMatchOfUptoSaid : Prop := fnExactMatchOfUptoRow.holds Try.pinned (OpenSpec.upto fnExactMatchOfSpec)

/-- 'laws.FnExactTermPlain', WHERE WHAT IT READS IS OF BULK AT MOST 1048576: true; the input reads as it did. -/
def fnExactTermPlainUptoRow : OpenClaim := { program := "ytlaaihnokoeliab", sum := "6e87a98dbfd9afcc60bfa84ca4a3b3ce5b71b3953bcdd024162a054e8fdcea60", func := "loop.example/tipstaff/laws.FnExactTermPlain", spec := "fnExactTermPlain", unfollowed := true, recurses := true, loops := true, apart := false, narrowed := true }
def FnExactTermPlainUptoSaid : Prop := fnExactTermPlainUptoRow.holds Try.pinned (OpenSpec.upto fnExactTermPlainSpec)

end Rows
end Go.Proofs.Ytlaaihnokoeliab
