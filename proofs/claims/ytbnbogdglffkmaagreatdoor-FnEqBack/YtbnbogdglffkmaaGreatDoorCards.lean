/-
  DERIVED. GIVEN WITH THE SEED: THE CARDS: each row of YtbnbogdglffkmaaGreatDoorRows.lean that lists a variable, with what it lists TIED to the program's text (the seventh form; the later family's looks); each row that meets fmt, with fmt's text TOLD by the authors' own Lean function (tested against real Go, not proved from fmt's source: count such statements apart). THE CARD IS WHAT COUNTS. Prove the row's statement (the work); the ties are given (YtbnbogdglffkmaaGreatDoorTie.lean); close each card by the builder's one call (the guide's Derived/Test/ToyasCard.lean, 'card_holds'). Laid BY PROGRAM, IN A SANDBOX (cutbox-door.mjs). By AI agents, Wed Nov 11 2026. No macro, syntax, notation, axiom, sorry.
-/
import Derived.Test.YtbnbogdglffkmaaGreatDoorRows
import GoSem.ClaimSeven
namespace Go.Proofs.YtbnbogdglffkmaaGreatDoor
namespace Rows

/-- THE TIED CARD OF 'laws.FnEqBack'. -/
def fnEqBackCard : Claim7 := { stood := { row := fnEqBackRow, standIns := [], harness := (true, "3d1b150ae5b17a53b8469454127e551ff799811ddb7d61252cc5ce7dd10aa07c"), looks := true }, kinds := [], alts := [], laidByText := true, laidKinds := [.data, .data, .data, .data, .sentinel, .sentinel, .pinned], laidTests := true, laidLooks := .later }
def FnEqBackCardSaid : Prop := Claim7.holds Tryz.pinned (.plain (OpenSpec.ofChange fnEqBackSpec)) fnEqBackCard

/-- THE TIED CARD OF 'laws.FnEqStrict'. -/
def fnEqStrictCard : Claim7 := { stood := { row := fnEqStrictRow, standIns := [], harness := (true, "3d1b150ae5b17a53b8469454127e551ff799811ddb7d61252cc5ce7dd10aa07c"), looks := true }, kinds := [], alts := [], laidByText := true, laidKinds := [.data, .data, .data, .data, .sentinel, .sentinel, .pinned], laidTests := true, laidLooks := .later }
def FnEqStrictCardSaid : Prop := Claim7.holds Tryz.pinned (.plain (OpenSpec.ofChange fnEqStrictSpec)) fnEqStrictCard

/-- THE SECOND FORM's CARD OF 'laws.FnEqBack'. -/
def fnEqBackUptoCard : Claim7 := { stood := { row := fnEqBackUptoRow, standIns := [], harness := (true, "3d1b150ae5b17a53b8469454127e551ff799811ddb7d61252cc5ce7dd10aa07c"), looks := true }, kinds := [], alts := [], laidByText := true, laidKinds := [.data, .data, .data, .data, .sentinel, .sentinel, .pinned], laidTests := true, laidLooks := .later }
def FnEqBackUptoCardSaid : Prop := Claim7.holds Tryz.pinned (.plain (OpenSpec.upto fnEqBackSpec)) fnEqBackUptoCard

/-- THE SECOND FORM's CARD OF 'laws.FnEqStrict'. -/
def fnEqStrictUptoCard : Claim7 := { stood := { row := fnEqStrictUptoRow, standIns := [], harness := (true, "3d1b150ae5b17a53b8469454127e551ff799811ddb7d61252cc5ce7dd10aa07c"), looks := true }, kinds := [], alts := [], laidByText := true, laidKinds := [.data, .data, .data, .data, .sentinel, .sentinel, .pinned], laidTests := true, laidLooks := .later }
def FnEqStrictUptoCardSaid : Prop := Claim7.holds Tryz.pinned (.plain (OpenSpec.upto fnEqStrictSpec)) fnEqStrictUptoCard
end Rows
end Go.Proofs.YtbnbogdglffkmaaGreatDoor
