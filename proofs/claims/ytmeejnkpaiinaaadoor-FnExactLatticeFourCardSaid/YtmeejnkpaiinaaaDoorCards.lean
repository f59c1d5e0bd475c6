/-
  DERIVED. GIVEN WITH THE SEED: THE CARDS: each row of YtmeejnkpaiinaaaDoorRows.lean that lists a variable, with what it lists TIED to the program's text (the seventh form; the later family's looks); each row that meets fmt, with fmt's text TOLD by the authors' own Lean function (tested against real Go, not proved from fmt's source: count such statements apart). THE CARD IS WHAT COUNTS. Prove the row's statement (the work); the ties are given (YtmeejnkpaiinaaaDoorTie.lean); close each card by the builder's one call (the guide's Derived/Test/ToyasCard.lean, 'card_holds'). Laid BY PROGRAM, IN A SANDBOX (cutbox-door.mjs). By AI agents, Wed Nov 11 2026. No macro, syntax, notation, axiom, sorry.
-/
import Derived.Test.YtmeejnkpaiinaaaDoorRows
import GoSem.ClaimSeven
namespace Go.Proofs.YtmeejnkpaiinaaaDoor
namespace Rows

/-- THE TIED CARD OF 'laws.FnExactLatticeIn'. -/
def fnExactLatticeInCard : Claim7 := { stood := { row := fnExactLatticeInRow, standIns := [], harness := (true, "15d3c3dae64dc8137bbe5249cd30dbc585a562f886fe98cb0e48f51c65f25220"), looks := false }, kinds := [], alts := [], laidByText := true, laidKinds := [.data, .data, .data], laidTests := true, laidLooks := .later }
def FnExactLatticeInCardSaid : Prop := Claim7.holds Tryd.pinned (.plain (OpenSpec.ofChange fnExactLatticeInSpec)) fnExactLatticeInCard

/-- THE TIED CARD OF 'laws.FnExactLatticeAdd'. -/
def fnExactLatticeAddCard : Claim7 := { stood := { row := fnExactLatticeAddRow, standIns := [], harness := (true, "15d3c3dae64dc8137bbe5249cd30dbc585a562f886fe98cb0e48f51c65f25220"), looks := false }, kinds := [], alts := [], laidByText := true, laidKinds := [.data, .data, .data], laidTests := true, laidLooks := .later }
def FnExactLatticeAddCardSaid : Prop := Claim7.holds Tryd.pinned (.plain (OpenSpec.ofChange fnExactLatticeAddSpec)) fnExactLatticeAddCard

/-- THE TIED CARD OF 'laws.FnExactLatticeFlip'. -/
def fnExactLatticeFlipCard : Claim7 := { stood := { row := fnExactLatticeFlipRow, standIns := [], harness := (true, "15d3c3dae64dc8137bbe5249cd30dbc585a562f886fe98cb0e48f51c65f25220"), looks := false }, kinds := [], alts := [], laidByText := true, laidKinds := [.data], laidTests := true, laidLooks := .later }
def FnExactLatticeFlipCardSaid : Prop := Claim7.holds Tryd.pinned (.plain (OpenSpec.ofChange fnExactLatticeFlipSpec)) fnExactLatticeFlipCard

/-- THE TIED CARD OF 'laws.FnExactLatticeOctad'. -/
def fnExactLatticeOctadCard : Claim7 := { stood := { row := fnExactLatticeOctadRow, standIns := [], harness := (true, "15d3c3dae64dc8137bbe5249cd30dbc585a562f886fe98cb0e48f51c65f25220"), looks := false }, kinds := [], alts := [], laidByText := true, laidKinds := [.data, .data, .data], laidTests := true, laidLooks := .later }
def FnExactLatticeOctadCardSaid : Prop := Claim7.holds Tryd.pinned (.plain (OpenSpec.ofChange fnExactLatticeOctadSpec)) fnExactLatticeOctadCard

/-- THE TIED CARD OF 'laws.FnExactLatticeThree'. -/
def fnExactLatticeThreeCard : Claim7 := { stood := { row := fnExactLatticeThreeRow, standIns := [], harness := (true, "15d3c3dae64dc8137bbe5249cd30dbc585a562f886fe98cb0e48f51c65f25220"), looks := false }, kinds := [], alts := [], laidByText := true, laidKinds := [.data, .data, .data], laidTests := true, laidLooks := .later }
def FnExactLatticeThreeCardSaid : Prop := Claim7.holds Tryd.pinned (.plain (OpenSpec.ofChange fnExactLatticeThreeSpec)) fnExactLatticeThreeCard

/-- THE TIED CARD OF 'laws.FnExactLatticeFour'. -/
def fnExactLatticeFourCard : Claim7 := { stood := { row := fnExactLatticeFourRow, standIns := [], harness := (true, "15d3c3dae64dc8137bbe5249cd30dbc585a562f886fe98cb0e48f51c65f25220"), looks := false }, kinds := [], alts := [], laidByText := true, laidKinds := [.data], laidTests := true, laidLooks := .later }
def FnExactLatticeFourCardSaid : Prop := Claim7.holds Tryd.pinned (.plain (OpenSpec.ofChange fnExactLatticeFourSpec)) fnExactLatticeFourCard

/-- THE SECOND FORM's CARD OF 'laws.FnExactLatticeIn'. -/
def fnExactLatticeInUptoCard : Claim7 := { stood := { row := fnExactLatticeInUptoRow, standIns := [], harness := (true, "15d3c3dae64dc8137bbe5249cd30dbc585a562f886fe98cb0e48f51c65f25220"), looks := false }, kinds := [], alts := [], laidByText := true, laidKinds := [.data, .data, .data], laidTests := true, laidLooks := .later }
def FnExactLatticeInUptoCardSaid : Prop := Claim7.holds Tryd.pinned (.plain (OpenSpec.upto fnExactLatticeInSpec)) fnExactLatticeInUptoCard

/-- THE SECOND FORM's CARD OF 'laws.FnExactLatticeAdd'. -/
def fnExactLatticeAddUptoCard : Claim7 := { stood := { row := fnExactLatticeAddUptoRow, standIns := [], harness := (true, "15d3c3dae64dc8137bbe5249cd30dbc585a562f886fe98cb0e48f51c65f25220"), looks := false }, kinds := [], alts := [], laidByText := true, laidKinds := [.data, .data, .data], laidTests := true, laidLooks := .later }
def FnExactLatticeAddUptoCardSaid : Prop := Claim7.holds Tryd.pinned (.plain (OpenSpec.upto fnExactLatticeAddSpec)) fnExactLatticeAddUptoCard

/-- THE SECOND FORM's CARD OF 'laws.FnExactLatticeFlip'. -/
def fnExactLatticeFlipUptoCard : Claim7 := { stood := { row := fnExactLatticeFlipUptoRow, standIns := [], harness := (true, "15d3c3dae64dc8137bbe5249cd30dbc585a562f886fe98cb0e48f51c65f25220"), looks := false }, kinds := [], alts := [], laidByText := true, laidKinds := [.data], laidTests := true, laidLooks := .later }
def FnExactLatticeFlipUptoCardSaid : Prop := Claim7.holds Tryd.pinned (.plain (OpenSpec.upto fnExactLatticeFlipSpec)) fnExactLatticeFlipUptoCard

/-- THE SECOND FORM's CARD OF 'laws.FnExactLatticeOctad'. -/
def fnExactLatticeOctadUptoCard : Claim7 := { stood := { row := fnExactLatticeOctadUptoRow, standIns := [], harness := (true, "15d3c3dae64dc8137bbe5249cd30dbc585a562f886fe98cb0e48f51c65f25220"), looks := false }, kinds := [], alts := [], laidByText := true, laidKinds := [.data, .data, .data], laidTests := true, laidLooks := .later }
def FnExactLatticeOctadUptoCardSaid : Prop := Claim7.holds Tryd.pinned (.plain (OpenSpec.upto fnExactLatticeOctadSpec)) fnExactLatticeOctadUptoCard

/-- THE SECOND FORM's CARD OF 'laws.FnExactLatticeThree'. -/
def fnExactLatticeThreeUptoCard : Claim7 := { stood := { row := fnExactLatticeThreeUptoRow, standIns := [], harness := (true, "15d3c3dae64dc8137bbe5249cd30dbc585a562f886fe98cb0e48f51c65f25220"), looks := false }, kinds := [], alts := [], laidByText := true, laidKinds := [.data, .data, .data], laidTests := true, laidLooks := .later }
def FnExactLatticeThreeUptoCardSaid : Prop := Claim7.holds Tryd.pinned (.plain (OpenSpec.upto fnExactLatticeThreeSpec)) fnExactLatticeThreeUptoCard

/-- THE SECOND FORM's CARD OF 'laws.FnExactLatticeFour'. -/
def fnExactLatticeFourUptoCard : Claim7 := { stood := { row := fnExactLatticeFourUptoRow, standIns := [], harness := (true, "15d3c3dae64dc8137bbe5249cd30dbc585a562f886fe98cb0e48f51c65f25220"), looks := false }, kinds := [], alts := [], laidByText := true, laidKinds := [.data], laidTests := true, laidLooks := .later }
def FnExactLatticeFourUptoCardSaid : Prop := Claim7.holds Tryd.pinned (.plain (OpenSpec.upto fnExactLatticeFourSpec)) fnExactLatticeFourUptoCard
end Rows
end Go.Proofs.YtmeejnkpaiinaaaDoor
