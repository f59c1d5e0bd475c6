/-
  DERIVED. GIVEN WITH THE SEED: THE CARDS: each row of YtnfpdonlknkccacDoorRows.lean that lists a variable, with what it lists TIED to the program's text (the seventh form; the later family's looks); each row that meets fmt, with fmt's text TOLD by the authors' own Lean function (tested against real Go, not proved from fmt's source: count such statements apart). THE CARD IS WHAT COUNTS. Prove the row's statement (the work); the ties are given (YtnfpdonlknkccacDoorTie.lean); close each card by the builder's one call (the guide's Derived/Test/ToyasCard.lean, 'card_holds'). Laid BY PROGRAM, IN A SANDBOX (cutbox-door.mjs). By AI agents, Wed Nov 11 2026. No macro, syntax, notation, axiom, sorry.
-/
import Derived.Test.YtnfpdonlknkccacDoorRows
import GoSem.ClaimSeven
namespace Go.Proofs.YtnfpdonlknkccacDoor
namespace Rows

/-- THE TIED CARD OF 'laws.FnTriangle'. -/
def fnTriangleCard : Claim7 := { stood := { row := fnTriangleRow, standIns := [], harness := (true, "4a749104250ab3a204df1e82e38f51660857f69a41c87ee6e7e89916c9650eec"), looks := false }, kinds := [], alts := [], laidByText := true, laidKinds := [.data, .data, .data], laidTests := true, laidLooks := .later }
def FnTriangleCardSaid : Prop := Claim7.holds Tryd.pinned (.plain (OpenSpec.ofChange fnTriangleSpec)) fnTriangleCard

/-- THE TIED CARD OF 'laws.FnOctad'. -/
def fnOctadCard : Claim7 := { stood := { row := fnOctadRow, standIns := [], harness := (true, "4a749104250ab3a204df1e82e38f51660857f69a41c87ee6e7e89916c9650eec"), looks := false }, kinds := [], alts := [], laidByText := true, laidKinds := [.data, .data, .data], laidTests := true, laidLooks := .later }
def FnOctadCardSaid : Prop := Claim7.holds Tryd.pinned (.plain (OpenSpec.ofChange fnOctadSpec)) fnOctadCard

/-- THE TIED CARD OF 'laws.FnThrough'. -/
def fnThroughCard : Claim7 := { stood := { row := fnThroughRow, standIns := [], harness := (true, "4a749104250ab3a204df1e82e38f51660857f69a41c87ee6e7e89916c9650eec"), looks := false }, kinds := [], alts := [], laidByText := true, laidKinds := [.data, .data, .data], laidTests := true, laidLooks := .later }
def FnThroughCardSaid : Prop := Claim7.holds Tryd.pinned (.plain (OpenSpec.ofChange fnThroughSpec)) fnThroughCard

/-- THE TIED CARD OF 'laws.FnExactOctadTriangle'. -/
def fnExactOctadTriangleCard : Claim7 := { stood := { row := fnExactOctadTriangleRow, standIns := [], harness := (true, "4a749104250ab3a204df1e82e38f51660857f69a41c87ee6e7e89916c9650eec"), looks := false }, kinds := [], alts := [], laidByText := true, laidKinds := [.data, .data, .data], laidTests := true, laidLooks := .later }
def FnExactOctadTriangleCardSaid : Prop := Claim7.holds Tryd.pinned (.plain (OpenSpec.ofChange fnExactOctadTriangleSpec)) fnExactOctadTriangleCard

/-- THE TIED CARD OF 'laws.FnExactOctadThrough'. -/
def fnExactOctadThroughCard : Claim7 := { stood := { row := fnExactOctadThroughRow, standIns := [], harness := (true, "4a749104250ab3a204df1e82e38f51660857f69a41c87ee6e7e89916c9650eec"), looks := false }, kinds := [], alts := [], laidByText := true, laidKinds := [.data, .data, .data], laidTests := true, laidLooks := .later }
def FnExactOctadThroughCardSaid : Prop := Claim7.holds Tryd.pinned (.plain (OpenSpec.ofChange fnExactOctadThroughSpec)) fnExactOctadThroughCard

/-- THE SECOND FORM's CARD OF 'laws.FnTriangle'. -/
def fnTriangleUptoCard : Claim7 := { stood := { row := fnTriangleUptoRow, standIns := [], harness := (true, "4a749104250ab3a204df1e82e38f51660857f69a41c87ee6e7e89916c9650eec"), looks := false }, kinds := [], alts := [], laidByText := true, laidKinds := [.data, .data, .data], laidTests := true, laidLooks := .later }
def FnTriangleUptoCardSaid : Prop := Claim7.holds Tryd.pinned (.plain (OpenSpec.upto fnTriangleSpec)) fnTriangleUptoCard

/-- THE SECOND FORM's CARD OF 'laws.FnOctad'. -/
def fnOctadUptoCard : Claim7 := { stood := { row := fnOctadUptoRow, standIns := [], harness := (true, "4a749104250ab3a204df1e82e38f51660857f69a41c87ee6e7e89916c9650eec"), looks := false }, kinds := [], alts := [], laidByText := true, laidKinds := [.data, .data, .data], laidTests := true, laidLooks := .later }
def FnOctadUptoCardSaid : Prop := Claim7.holds Tryd.pinned (.plain (OpenSpec.upto fnOctadSpec)) fnOctadUptoCard

/-- THE SECOND FORM's CARD OF 'laws.FnThrough'. -/
def fnThroughUptoCard : Claim7 := { stood := { row := fnThroughUptoRow, standIns := [], harness := (true, "4a749104250ab3a204df1e82e38f51660857f69a41c87ee6e7e89916c9650eec"), looks := false }, kinds := [], alts := [], laidByText := true, laidKinds := [.data, .data, .data], laidTests := true, laidLooks := .later }
def FnThroughUptoCardSaid : Prop := Claim7.holds Tryd.pinned (.plain (OpenSpec.upto fnThroughSpec)) fnThroughUptoCard

/-- THE SECOND FORM's CARD OF 'laws.FnExactOctadTriangle'. -/
def fnExactOctadTriangleUptoCard : Claim7 := { stood := { row := fnExactOctadTriangleUptoRow, standIns := [], harness := (true, "4a749104250ab3a204df1e82e38f51660857f69a41c87ee6e7e89916c9650eec"), looks := false }, kinds := [], alts := [], laidByText := true, laidKinds := [.data, .data, .data], laidTests := true, laidLooks := .later }
def FnExactOctadTriangleUptoCardSaid : Prop := Claim7.holds Tryd.pinned (.plain (OpenSpec.upto fnExactOctadTriangleSpec)) fnExactOctadTriangleUptoCard

/-- THE SECOND FORM's CARD OF 'laws.FnExactOctadThrough'. -/
def fnExactOctadThroughUptoCard : Claim7 := { stood := { row := fnExactOctadThroughUptoRow, standIns := [], harness := (true, "4a749104250ab3a204df1e82e38f51660857f69a41c87ee6e7e89916c9650eec"), looks := false }, kinds := [], alts := [], laidByText := true, laidKinds := [.data, .data, .data], laidTests := true, laidLooks := .later }
def FnExactOctadThroughUptoCardSaid : Prop := Claim7.holds Tryd.pinned (.plain (OpenSpec.upto fnExactOctadThroughSpec)) fnExactOctadThroughUptoCard
end Rows
end Go.Proofs.YtnfpdonlknkccacDoor
