/-
  DERIVED. GIVEN WITH THE SEED: THE CARDS: each row of YtnfpdonlknkccabDoorRows.lean that lists a variable, with what it lists TIED to the program's text (the seventh form; the later family's looks); each row that meets fmt, with fmt's text TOLD by the authors' own Lean function (tested against real Go, not proved from fmt's source: count such statements apart). THE CARD IS WHAT COUNTS. Prove the row's statement (the work); the ties are given (YtnfpdonlknkccabDoorTie.lean); close each card by the builder's one call (the guide's Derived/Test/ToyasCard.lean, 'card_holds'). Laid BY PROGRAM, IN A SANDBOX (cutbox-door.mjs). By AI agents, Wed Nov 11 2026. No macro, syntax, notation, axiom, sorry.
-/
import Derived.Test.YtnfpdonlknkccabDoorRows
import GoSem.ClaimSeven
namespace Go.Proofs.YtnfpdonlknkccabDoor
namespace Rows

/-- THE TIED CARD OF 'laws.FnExactPlaneLines'. -/
def fnExactPlaneLinesCard : Claim7 := { stood := { row := fnExactPlaneLinesRow, standIns := [], harness := (true, "f6bba568130f8fffb7f32adbcd8c338fa3c63c920c004ce6a0119897e6c48595"), looks := false }, kinds := [], alts := [], laidByText := true, laidKinds := [.data, .data], laidTests := true, laidLooks := .later }
def FnExactPlaneLinesCardSaid : Prop := Claim7.holds Tryd.pinned (.plain (OpenSpec.ofChange fnExactPlaneLinesSpec)) fnExactPlaneLinesCard

/-- THE TIED CARD OF 'laws.FnExactPlanePoint'. -/
def fnExactPlanePointCard : Claim7 := { stood := { row := fnExactPlanePointRow, standIns := [], harness := (true, "f6bba568130f8fffb7f32adbcd8c338fa3c63c920c004ce6a0119897e6c48595"), looks := false }, kinds := [], alts := [], laidByText := true, laidKinds := [.data, .data, .data], laidTests := true, laidLooks := .later }
def FnExactPlanePointCardSaid : Prop := Claim7.holds Tryd.pinned (.plain (OpenSpec.ofChange fnExactPlanePointSpec)) fnExactPlanePointCard

/-- THE TIED CARD OF 'laws.FnExactPlaneOvals'. -/
def fnExactPlaneOvalsCard : Claim7 := { stood := { row := fnExactPlaneOvalsRow, standIns := [], harness := (true, "f6bba568130f8fffb7f32adbcd8c338fa3c63c920c004ce6a0119897e6c48595"), looks := false }, kinds := [], alts := [], laidByText := true, laidKinds := [.data, .data], laidTests := true, laidLooks := .later }
def FnExactPlaneOvalsCardSaid : Prop := Claim7.holds Tryd.pinned (.plain (OpenSpec.ofChange fnExactPlaneOvalsSpec)) fnExactPlaneOvalsCard

/-- THE SECOND FORM's CARD OF 'laws.FnExactPlaneLines'. -/
def fnExactPlaneLinesUptoCard : Claim7 := { stood := { row := fnExactPlaneLinesUptoRow, standIns := [], harness := (true, "f6bba568130f8fffb7f32adbcd8c338fa3c63c920c004ce6a0119897e6c48595"), looks := false }, kinds := [], alts := [], laidByText := true, laidKinds := [.data, .data], laidTests := true, laidLooks := .later }
def FnExactPlaneLinesUptoCardSaid : Prop := Claim7.holds Tryd.pinned (.plain (OpenSpec.upto fnExactPlaneLinesSpec)) fnExactPlaneLinesUptoCard

/-- THE SECOND FORM's CARD OF 'laws.FnExactPlanePoint'. -/
def fnExactPlanePointUptoCard : Claim7 := { stood := { row := fnExactPlanePointUptoRow, standIns := [], harness := (true, "f6bba568130f8fffb7f32adbcd8c338fa3c63c920c004ce6a0119897e6c48595"), looks := false }, kinds := [], alts := [], laidByText := true, laidKinds := [.data, .data, .data], laidTests := true, laidLooks := .later }
def FnExactPlanePointUptoCardSaid : Prop := Claim7.holds Tryd.pinned (.plain (OpenSpec.upto fnExactPlanePointSpec)) fnExactPlanePointUptoCard

/-- THE SECOND FORM's CARD OF 'laws.FnExactPlaneOvals'. -/
def fnExactPlaneOvalsUptoCard : Claim7 := { stood := { row := fnExactPlaneOvalsUptoRow, standIns := [], harness := (true, "f6bba568130f8fffb7f32adbcd8c338fa3c63c920c004ce6a0119897e6c48595"), looks := false }, kinds := [], alts := [], laidByText := true, laidKinds := [.data, .data], laidTests := true, laidLooks := .later }
def FnExactPlaneOvalsUptoCardSaid : Prop := Claim7.holds Tryd.pinned (.plain (OpenSpec.upto fnExactPlaneOvalsSpec)) fnExactPlaneOvalsUptoCard
end Rows
end Go.Proofs.YtnfpdonlknkccabDoor
