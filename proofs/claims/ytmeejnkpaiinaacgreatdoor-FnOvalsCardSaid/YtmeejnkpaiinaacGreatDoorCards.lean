/-
  DERIVED. GIVEN WITH THE SEED: THE CARDS: each row of YtmeejnkpaiinaacGreatDoorRows.lean that lists a variable, with what it lists TIED to the program's text (the seventh form; the later family's looks); each row that meets fmt, with fmt's text TOLD by the authors' own Lean function (tested against real Go, not proved from fmt's source: count such statements apart). THE CARD IS WHAT COUNTS. Prove the row's statement (the work); the ties are given (YtmeejnkpaiinaacGreatDoorTie.lean); close each card by the builder's one call (the guide's Derived/Test/ToyasCard.lean, 'card_holds'). Laid BY PROGRAM, IN A SANDBOX (cutbox-door.mjs). By AI agents, Wed Nov 11 2026. No macro, syntax, notation, axiom, sorry.
-/
import Derived.Test.YtmeejnkpaiinaacGreatDoorRows
import GoSem.ClaimSeven
namespace Go.Proofs.YtmeejnkpaiinaacGreatDoor
namespace Rows

/-- THE TIED CARD OF 'laws.FnLatticeMove'. -/
def fnLatticeMoveCard : Claim7 := { stood := { row := fnLatticeMoveRow, standIns := [], harness := (true, "5e8108eb7702b4ecc298e0909d7b4ba968747fb456bac4d5b3e2f95dbc9705d0"), looks := true }, kinds := [], alts := [], goes := true, laidByText := true, laidKinds := [.data, .data, .data], laidTests := true, laidLooks := .later }
def FnLatticeMoveCardSaid : Prop := Claim7.holds Tryz.pinned (.plain (OpenSpec.ofChange fnLatticeMoveSpec)) fnLatticeMoveCard

/-- THE TIED CARD OF 'laws.FnOn'. -/
def fnOnCard : Claim7 := { stood := { row := fnOnRow, standIns := [], harness := (true, "5e8108eb7702b4ecc298e0909d7b4ba968747fb456bac4d5b3e2f95dbc9705d0"), looks := true }, kinds := [], alts := [], goes := true, laidByText := true, laidKinds := [.handle, .data, .data], laidTests := true, laidLooks := .later }
def FnOnCardSaid : Prop := Claim7.holds Tryz.pinned (.plain (OpenSpec.ofChange fnOnSpec)) fnOnCard

/-- THE TIED CARD OF 'laws.FnOval'. -/
def fnOvalCard : Claim7 := { stood := { row := fnOvalRow, standIns := [], harness := (true, "5e8108eb7702b4ecc298e0909d7b4ba968747fb456bac4d5b3e2f95dbc9705d0"), looks := true }, kinds := [], alts := [], goes := true, laidByText := true, laidKinds := [.data, .handle, .data, .data], laidTests := true, laidLooks := .later }
def FnOvalCardSaid : Prop := Claim7.holds Tryz.pinned (.plain (OpenSpec.ofChange fnOvalSpec)) fnOvalCard

/-- THE TIED CARD OF 'laws.FnOvals'. -/
def fnOvalsCard : Claim7 := { stood := { row := fnOvalsRow, standIns := [], harness := (true, "5e8108eb7702b4ecc298e0909d7b4ba968747fb456bac4d5b3e2f95dbc9705d0"), looks := true }, kinds := [], alts := [], goes := true, laidByText := true, laidKinds := [.data, .handle, .data, .data], laidTests := true, laidLooks := .later }
def FnOvalsCardSaid : Prop := Claim7.holds Tryz.pinned (.plain (OpenSpec.ofChange fnOvalsSpec)) fnOvalsCard

/-- THE TIED CARD OF 'laws.FnFour'. -/
def fnFourCard : Claim7 := { stood := { row := fnFourRow, standIns := [], harness := (true, "5e8108eb7702b4ecc298e0909d7b4ba968747fb456bac4d5b3e2f95dbc9705d0"), looks := true }, kinds := [], alts := [], goes := true, laidByText := true, laidKinds := [.data, .handle, .data, .data], laidTests := true, laidLooks := .later }
def FnFourCardSaid : Prop := Claim7.holds Tryz.pinned (.plain (OpenSpec.ofChange fnFourSpec)) fnFourCard

/-- THE TIED CARD OF 'laws.FnSub'. -/
def fnSubCard : Claim7 := { stood := { row := fnSubRow, standIns := [], harness := (true, "5e8108eb7702b4ecc298e0909d7b4ba968747fb456bac4d5b3e2f95dbc9705d0"), looks := true }, kinds := [], alts := [], goes := true, laidByText := true, laidKinds := [.data, .handle, .data, .data], laidTests := true, laidLooks := .later }
def FnSubCardSaid : Prop := Claim7.holds Tryz.pinned (.plain (OpenSpec.ofChange fnSubSpec)) fnSubCard

/-- THE SECOND FORM's CARD OF 'laws.FnLatticeMove'. -/
def fnLatticeMoveUptoCard : Claim7 := { stood := { row := fnLatticeMoveUptoRow, standIns := [], harness := (true, "5e8108eb7702b4ecc298e0909d7b4ba968747fb456bac4d5b3e2f95dbc9705d0"), looks := true }, kinds := [], alts := [], goes := true, laidByText := true, laidKinds := [.data, .data, .data], laidTests := true, laidLooks := .later }
def FnLatticeMoveUptoCardSaid : Prop := Claim7.holds Tryz.pinned (.plain (OpenSpec.upto fnLatticeMoveSpec)) fnLatticeMoveUptoCard

/-- THE SECOND FORM's CARD OF 'laws.FnOn'. -/
def fnOnUptoCard : Claim7 := { stood := { row := fnOnUptoRow, standIns := [], harness := (true, "5e8108eb7702b4ecc298e0909d7b4ba968747fb456bac4d5b3e2f95dbc9705d0"), looks := true }, kinds := [], alts := [], goes := true, laidByText := true, laidKinds := [.handle, .data, .data], laidTests := true, laidLooks := .later }
def FnOnUptoCardSaid : Prop := Claim7.holds Tryz.pinned (.plain (OpenSpec.upto fnOnSpec)) fnOnUptoCard

/-- THE SECOND FORM's CARD OF 'laws.FnOval'. -/
def fnOvalUptoCard : Claim7 := { stood := { row := fnOvalUptoRow, standIns := [], harness := (true, "5e8108eb7702b4ecc298e0909d7b4ba968747fb456bac4d5b3e2f95dbc9705d0"), looks := true }, kinds := [], alts := [], goes := true, laidByText := true, laidKinds := [.data, .handle, .data, .data], laidTests := true, laidLooks := .later }
def FnOvalUptoCardSaid : Prop := Claim7.holds Tryz.pinned (.plain (OpenSpec.upto fnOvalSpec)) fnOvalUptoCard

/-- THE SECOND FORM's CARD OF 'laws.FnOvals'. -/
def fnOvalsUptoCard : Claim7 := { stood := { row := fnOvalsUptoRow, standIns := [], harness := (true, "5e8108eb7702b4ecc298e0909d7b4ba968747fb456bac4d5b3e2f95dbc9705d0"), looks := true }, kinds := [], alts := [], goes := true, laidByText := true, laidKinds := [.data, .handle, .data, .data], laidTests := true, laidLooks := .later }
def FnOvalsUptoCardSaid : Prop := Claim7.holds Tryz.pinned (.plain (OpenSpec.upto fnOvalsSpec)) fnOvalsUptoCard

/-- THE SECOND FORM's CARD OF 'laws.FnFour'. -/
def fnFourUptoCard : Claim7 := { stood := { row := fnFourUptoRow, standIns := [], harness := (true, "5e8108eb7702b4ecc298e0909d7b4ba968747fb456bac4d5b3e2f95dbc9705d0"), looks := true }, kinds := [], alts := [], goes := true, laidByText := true, laidKinds := [.data, .handle, .data, .data], laidTests := true, laidLooks := .later }
def FnFourUptoCardSaid : Prop := Claim7.holds Tryz.pinned (.plain (OpenSpec.upto fnFourSpec)) fnFourUptoCard

/-- THE SECOND FORM's CARD OF 'laws.FnSub'. -/
def fnSubUptoCard : Claim7 := { stood := { row := fnSubUptoRow, standIns := [], harness := (true, "5e8108eb7702b4ecc298e0909d7b4ba968747fb456bac4d5b3e2f95dbc9705d0"), looks := true }, kinds := [], alts := [], goes := true, laidByText := true, laidKinds := [.data, .handle, .data, .data], laidTests := true, laidLooks := .later }
def FnSubUptoCardSaid : Prop := Claim7.holds Tryz.pinned (.plain (OpenSpec.upto fnSubSpec)) fnSubUptoCard
end Rows
end Go.Proofs.YtmeejnkpaiinaacGreatDoor
