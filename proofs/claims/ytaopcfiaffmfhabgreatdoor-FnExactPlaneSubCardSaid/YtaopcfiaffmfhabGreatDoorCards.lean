/-
  DERIVED. GIVEN WITH THE SEED: THE CARDS: each row of YtaopcfiaffmfhabGreatDoorRows.lean that lists a variable, with what it lists TIED to the program's text (the seventh form; the later family's looks); each row that meets fmt, with fmt's text TOLD by the authors' own Lean function (tested against real Go, not proved from fmt's source: count such statements apart). THE CARD IS WHAT COUNTS. Prove the row's statement (the work); the ties are given (YtaopcfiaffmfhabGreatDoorTie.lean); close each card by the builder's one call (the guide's Derived/Test/ToyasCard.lean, 'card_holds'). Laid BY PROGRAM, IN A SANDBOX (cutbox-door.mjs). By AI agents, Wed Nov 11 2026. No macro, syntax, notation, axiom, sorry.
-/
import Derived.Test.YtaopcfiaffmfhabGreatDoorRows
import GoSem.ClaimSeven
namespace Go.Proofs.YtaopcfiaffmfhabGreatDoor
namespace Rows

/-- THE TIED CARD OF 'laws.FnExactPlaneLine'. -/
def fnExactPlaneLineCard : Claim7 := { stood := { row := fnExactPlaneLineRow, standIns := [], harness := (true, "9e8b01b3823128e3a7df4d1313545321c82210b070c593c8ddab59e4b70eb60d"), looks := true }, kinds := [], alts := [], laidByText := true, laidKinds := [.handle, .data, .data], laidTests := true, laidLooks := .later }
def FnExactPlaneLineCardSaid : Prop := Claim7.holds Tryz.pinned (.plain (OpenSpec.ofChange fnExactPlaneLineSpec)) fnExactPlaneLineCard

/-- THE TIED CARD OF 'laws.FnExactPlaneOn'. -/
def fnExactPlaneOnCard : Claim7 := { stood := { row := fnExactPlaneOnRow, standIns := [], harness := (true, "9e8b01b3823128e3a7df4d1313545321c82210b070c593c8ddab59e4b70eb60d"), looks := true }, kinds := [], alts := [], laidByText := true, laidKinds := [.handle, .data, .data], laidTests := true, laidLooks := .later }
def FnExactPlaneOnCardSaid : Prop := Claim7.holds Tryz.pinned (.plain (OpenSpec.ofChange fnExactPlaneOnSpec)) fnExactPlaneOnCard

/-- THE TIED CARD OF 'laws.FnExactPlaneOval'. -/
def fnExactPlaneOvalCard : Claim7 := { stood := { row := fnExactPlaneOvalRow, standIns := [], harness := (true, "9e8b01b3823128e3a7df4d1313545321c82210b070c593c8ddab59e4b70eb60d"), looks := true }, kinds := [], alts := [], laidByText := true, laidKinds := [.data, .handle, .data, .data], laidTests := true, laidLooks := .later }
def FnExactPlaneOvalCardSaid : Prop := Claim7.holds Tryz.pinned (.plain (OpenSpec.ofChange fnExactPlaneOvalSpec)) fnExactPlaneOvalCard

/-- THE TIED CARD OF 'laws.FnExactPlaneFour'. -/
def fnExactPlaneFourCard : Claim7 := { stood := { row := fnExactPlaneFourRow, standIns := [], harness := (true, "9e8b01b3823128e3a7df4d1313545321c82210b070c593c8ddab59e4b70eb60d"), looks := true }, kinds := [], alts := [], laidByText := true, laidKinds := [.data, .handle, .data, .data], laidTests := true, laidLooks := .later }
def FnExactPlaneFourCardSaid : Prop := Claim7.holds Tryz.pinned (.plain (OpenSpec.ofChange fnExactPlaneFourSpec)) fnExactPlaneFourCard

/-- THE TIED CARD OF 'laws.FnExactPlaneSub'. -/
def fnExactPlaneSubCard : Claim7 := { stood := { row := fnExactPlaneSubRow, standIns := [], harness := (true, "9e8b01b3823128e3a7df4d1313545321c82210b070c593c8ddab59e4b70eb60d"), looks := true }, kinds := [], alts := [], laidByText := true, laidKinds := [.data, .handle, .data, .data], laidTests := true, laidLooks := .later }
def FnExactPlaneSubCardSaid : Prop := Claim7.holds Tryz.pinned (.plain (OpenSpec.ofChange fnExactPlaneSubSpec)) fnExactPlaneSubCard

/-- THE SECOND FORM's CARD OF 'laws.FnExactPlaneLine'. -/
def fnExactPlaneLineUptoCard : Claim7 := { stood := { row := fnExactPlaneLineUptoRow, standIns := [], harness := (true, "9e8b01b3823128e3a7df4d1313545321c82210b070c593c8ddab59e4b70eb60d"), looks := true }, kinds := [], alts := [], laidByText := true, laidKinds := [.handle, .data, .data], laidTests := true, laidLooks := .later }
def FnExactPlaneLineUptoCardSaid : Prop := Claim7.holds Tryz.pinned (.plain (OpenSpec.upto fnExactPlaneLineSpec)) fnExactPlaneLineUptoCard

/-- THE SECOND FORM's CARD OF 'laws.FnExactPlaneOn'. -/
def fnExactPlaneOnUptoCard : Claim7 := { stood := { row := fnExactPlaneOnUptoRow, standIns := [], harness := (true, "9e8b01b3823128e3a7df4d1313545321c82210b070c593c8ddab59e4b70eb60d"), looks := true }, kinds := [], alts := [], laidByText := true, laidKinds := [.handle, .data, .data], laidTests := true, laidLooks := .later }
def FnExactPlaneOnUptoCardSaid : Prop := Claim7.holds Tryz.pinned (.plain (OpenSpec.upto fnExactPlaneOnSpec)) fnExactPlaneOnUptoCard

/-- THE SECOND FORM's CARD OF 'laws.FnExactPlaneOval'. -/
def fnExactPlaneOvalUptoCard : Claim7 := { stood := { row := fnExactPlaneOvalUptoRow, standIns := [], harness := (true, "9e8b01b3823128e3a7df4d1313545321c82210b070c593c8ddab59e4b70eb60d"), looks := true }, kinds := [], alts := [], laidByText := true, laidKinds := [.data, .handle, .data, .data], laidTests := true, laidLooks := .later }
def FnExactPlaneOvalUptoCardSaid : Prop := Claim7.holds Tryz.pinned (.plain (OpenSpec.upto fnExactPlaneOvalSpec)) fnExactPlaneOvalUptoCard

/-- THE SECOND FORM's CARD OF 'laws.FnExactPlaneFour'. -/
def fnExactPlaneFourUptoCard : Claim7 := { stood := { row := fnExactPlaneFourUptoRow, standIns := [], harness := (true, "9e8b01b3823128e3a7df4d1313545321c82210b070c593c8ddab59e4b70eb60d"), looks := true }, kinds := [], alts := [], laidByText := true, laidKinds := [.data, .handle, .data, .data], laidTests := true, laidLooks := .later }
def FnExactPlaneFourUptoCardSaid : Prop := Claim7.holds Tryz.pinned (.plain (OpenSpec.upto fnExactPlaneFourSpec)) fnExactPlaneFourUptoCard

/-- THE SECOND FORM's CARD OF 'laws.FnExactPlaneSub'. -/
def fnExactPlaneSubUptoCard : Claim7 := { stood := { row := fnExactPlaneSubUptoRow, standIns := [], harness := (true, "9e8b01b3823128e3a7df4d1313545321c82210b070c593c8ddab59e4b70eb60d"), looks := true }, kinds := [], alts := [], laidByText := true, laidKinds := [.data, .handle, .data, .data], laidTests := true, laidLooks := .later }
def FnExactPlaneSubUptoCardSaid : Prop := Claim7.holds Tryz.pinned (.plain (OpenSpec.upto fnExactPlaneSubSpec)) fnExactPlaneSubUptoCard
end Rows
end Go.Proofs.YtaopcfiaffmfhabGreatDoor
