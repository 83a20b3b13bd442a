/-
  DERIVED. GIVEN WITH THE SEED: THE CARDS: each row of YtbnbogdglffkmaaDoorRows.lean that lists a variable, with what it lists TIED to the program's text (the seventh form; the later family's looks); each row that meets fmt, with fmt's text TOLD by the authors' own Lean function (tested against real Go, not proved from fmt's source: count such statements apart). THE CARD IS WHAT COUNTS. Prove the row's statement (the work); the ties are given (YtbnbogdglffkmaaDoorTie.lean); close each card by the builder's one call (the guide's Derived/Test/ToyasCard.lean, 'card_holds'). Laid BY PROGRAM, IN A SANDBOX (cutbox-door.mjs). By AI agents, Wed Nov 11 2026. No macro, syntax, notation, axiom, sorry.
-/
import Derived.Test.YtbnbogdglffkmaaDoorRows
import GoSem.ClaimSeven
namespace Go.Proofs.YtbnbogdglffkmaaDoor
namespace Rows

/-- THE TIED CARD OF 'laws.FnTermBack'. -/
def fnTermBackCard : Claim7 := { stood := { row := fnTermBackRow, standIns := [], harness := (true, "6914abf76d4336215d50635a379a974a721c185a3986acd20e090395482dbc9d"), looks := true }, kinds := [], alts := [], laidByText := true, laidKinds := [.data, .data, .data, .data, .sentinel, .sentinel, .pinned], laidTests := true, laidLooks := .later }
def FnTermBackCardSaid : Prop := Claim7.holds Tryd.pinned (.plain (OpenSpec.ofChange fnTermBackSpec)) fnTermBackCard

/-- THE TIED CARD OF 'laws.FnTermStrict'. -/
def fnTermStrictCard : Claim7 := { stood := { row := fnTermStrictRow, standIns := [], harness := (true, "6914abf76d4336215d50635a379a974a721c185a3986acd20e090395482dbc9d"), looks := true }, kinds := [], alts := [], laidByText := true, laidKinds := [.data, .data, .data, .data, .sentinel, .sentinel, .pinned], laidTests := true, laidLooks := .later }
def FnTermStrictCardSaid : Prop := Claim7.holds Tryd.pinned (.plain (OpenSpec.ofChange fnTermStrictSpec)) fnTermStrictCard

/-- THE TIED CARD OF 'laws.FnExactTermRead'. -/
def fnExactTermReadCard : Claim7 := { stood := { row := fnExactTermReadRow, standIns := [], harness := (true, "6914abf76d4336215d50635a379a974a721c185a3986acd20e090395482dbc9d"), looks := true }, kinds := [], alts := [], laidByText := true, laidKinds := [.data, .data, .data, .data, .sentinel, .sentinel, .pinned], laidTests := true, laidLooks := .later }
def FnExactTermReadCardSaid : Prop := Claim7.holds Tryd.pinned (.plain (OpenSpec.ofChange fnExactTermReadSpec)) fnExactTermReadCard

/-- THE TIED CARD OF 'laws.FnExactEqRead'. -/
def fnExactEqReadCard : Claim7 := { stood := { row := fnExactEqReadRow, standIns := [], harness := (true, "6914abf76d4336215d50635a379a974a721c185a3986acd20e090395482dbc9d"), looks := true }, kinds := [], alts := [], laidByText := true, laidKinds := [.data, .data, .data, .data, .sentinel, .sentinel, .pinned], laidTests := true, laidLooks := .later }
def FnExactEqReadCardSaid : Prop := Claim7.holds Tryd.pinned (.plain (OpenSpec.ofChange fnExactEqReadSpec)) fnExactEqReadCard

/-- THE SECOND FORM's CARD OF 'laws.FnTermBack'. -/
def fnTermBackUptoCard : Claim7 := { stood := { row := fnTermBackUptoRow, standIns := [], harness := (true, "6914abf76d4336215d50635a379a974a721c185a3986acd20e090395482dbc9d"), looks := true }, kinds := [], alts := [], laidByText := true, laidKinds := [.data, .data, .data, .data, .sentinel, .sentinel, .pinned], laidTests := true, laidLooks := .later }
def FnTermBackUptoCardSaid : Prop := Claim7.holds Tryd.pinned (.plain (OpenSpec.upto fnTermBackSpec)) fnTermBackUptoCard

/-- THE SECOND FORM's CARD OF 'laws.FnTermStrict'. -/
def fnTermStrictUptoCard : Claim7 := { stood := { row := fnTermStrictUptoRow, standIns := [], harness := (true, "6914abf76d4336215d50635a379a974a721c185a3986acd20e090395482dbc9d"), looks := true }, kinds := [], alts := [], laidByText := true, laidKinds := [.data, .data, .data, .data, .sentinel, .sentinel, .pinned], laidTests := true, laidLooks := .later }
def FnTermStrictUptoCardSaid : Prop := Claim7.holds Tryd.pinned (.plain (OpenSpec.upto fnTermStrictSpec)) fnTermStrictUptoCard

/-- THE SECOND FORM's CARD OF 'laws.FnExactTermRead'. -/
def fnExactTermReadUptoCard : Claim7 := { stood := { row := fnExactTermReadUptoRow, standIns := [], harness := (true, "6914abf76d4336215d50635a379a974a721c185a3986acd20e090395482dbc9d"), looks := true }, kinds := [], alts := [], laidByText := true, laidKinds := [.data, .data, .data, .data, .sentinel, .sentinel, .pinned], laidTests := true, laidLooks := .later }
def FnExactTermReadUptoCardSaid : Prop := Claim7.holds Tryd.pinned (.plain (OpenSpec.upto fnExactTermReadSpec)) fnExactTermReadUptoCard

/-- THE SECOND FORM's CARD OF 'laws.FnExactEqRead'. -/
def fnExactEqReadUptoCard : Claim7 := { stood := { row := fnExactEqReadUptoRow, standIns := [], harness := (true, "6914abf76d4336215d50635a379a974a721c185a3986acd20e090395482dbc9d"), looks := true }, kinds := [], alts := [], laidByText := true, laidKinds := [.data, .data, .data, .data, .sentinel, .sentinel, .pinned], laidTests := true, laidLooks := .later }
def FnExactEqReadUptoCardSaid : Prop := Claim7.holds Tryd.pinned (.plain (OpenSpec.upto fnExactEqReadSpec)) fnExactEqReadUptoCard
end Rows
end Go.Proofs.YtbnbogdglffkmaaDoor
