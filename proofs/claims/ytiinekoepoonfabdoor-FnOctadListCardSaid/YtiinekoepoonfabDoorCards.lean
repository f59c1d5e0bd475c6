/-
  DERIVED. GIVEN WITH THE SEED: THE CARDS: each row of YtiinekoepoonfabDoorRows.lean that lists a variable, with what it lists TIED to the program's text (the seventh form; the later family's looks); each row that meets fmt, with fmt's text TOLD by the authors' own Lean function (tested against real Go, not proved from fmt's source: count such statements apart). THE CARD IS WHAT COUNTS. Prove the row's statement (the work); the ties are given (YtiinekoepoonfabDoorTie.lean); close each card by the builder's one call (the guide's Derived/Test/ToyasCard.lean, 'card_holds'). Laid BY PROGRAM, IN A SANDBOX (cutbox-door.mjs). By AI agents, Wed Nov 11 2026. No macro, syntax, notation, axiom, sorry.
-/
import Derived.Test.YtiinekoepoonfabDoorRows
import GoSem.ClaimSeven
namespace Go.Proofs.YtiinekoepoonfabDoor
namespace Rows

/-- THE TIED CARD OF 'laws.FnOctad'. -/
def fnOctadCard : Claim7 := { stood := { row := fnOctadRow, standIns := [], harness := (true, "77d6bed1ec37b7d41586533137f64d2a23bc1a3d00a6489ec63e208828f47b42"), looks := false }, kinds := [], alts := [], laidByText := true, laidKinds := [.data, .data, .data], laidTests := true, laidLooks := .later }
def FnOctadCardSaid : Prop := Claim7.holds Tryd.pinned (.plain (OpenSpec.ofChange fnOctadSpec)) fnOctadCard

/-- THE TIED CARD OF 'laws.FnThrough'. -/
def fnThroughCard : Claim7 := { stood := { row := fnThroughRow, standIns := [], harness := (true, "77d6bed1ec37b7d41586533137f64d2a23bc1a3d00a6489ec63e208828f47b42"), looks := false }, kinds := [], alts := [], laidByText := true, laidKinds := [.data, .data, .data], laidTests := true, laidLooks := .later }
def FnThroughCardSaid : Prop := Claim7.holds Tryd.pinned (.plain (OpenSpec.ofChange fnThroughSpec)) fnThroughCard

/-- THE TIED CARD OF 'laws.FnOctadList'. -/
def fnOctadListCard : Claim7 := { stood := { row := fnOctadListRow, standIns := [], harness := (true, "77d6bed1ec37b7d41586533137f64d2a23bc1a3d00a6489ec63e208828f47b42"), looks := false }, kinds := [], alts := [], laidByText := true, laidKinds := [.data, .data, .data], laidTests := true, laidLooks := .later }
def FnOctadListCardSaid : Prop := Claim7.holds Tryd.pinned (.plain (OpenSpec.ofChange fnOctadListSpec)) fnOctadListCard

/-- THE TIED CARD OF 'laws.FnTriangle'. -/
def fnTriangleCard : Claim7 := { stood := { row := fnTriangleRow, standIns := [], harness := (true, "77d6bed1ec37b7d41586533137f64d2a23bc1a3d00a6489ec63e208828f47b42"), looks := false }, kinds := [], alts := [], laidByText := true, laidKinds := [.data, .data, .data], laidTests := true, laidLooks := .later }
def FnTriangleCardSaid : Prop := Claim7.holds Tryd.pinned (.plain (OpenSpec.ofChange fnTriangleSpec)) fnTriangleCard

/-- THE TIED CARD OF 'laws.FnExactOctadThrough'. -/
def fnExactOctadThroughCard : Claim7 := { stood := { row := fnExactOctadThroughRow, standIns := [], harness := (true, "77d6bed1ec37b7d41586533137f64d2a23bc1a3d00a6489ec63e208828f47b42"), looks := false }, kinds := [], alts := [], laidByText := true, laidKinds := [.data, .data, .data], laidTests := true, laidLooks := .later }
def FnExactOctadThroughCardSaid : Prop := Claim7.holds Tryd.pinned (.plain (OpenSpec.ofChange fnExactOctadThroughSpec)) fnExactOctadThroughCard

/-- THE TIED CARD OF 'laws.FnExactOctadList'. -/
def fnExactOctadListCard : Claim7 := { stood := { row := fnExactOctadListRow, standIns := [], harness := (true, "77d6bed1ec37b7d41586533137f64d2a23bc1a3d00a6489ec63e208828f47b42"), looks := false }, kinds := [], alts := [], laidByText := true, laidKinds := [.data, .data], laidTests := true, laidLooks := .later }
def FnExactOctadListCardSaid : Prop := Claim7.holds Tryd.pinned (.plain (OpenSpec.ofChange fnExactOctadListSpec)) fnExactOctadListCard

/-- THE TIED CARD OF 'laws.FnExactOctadTriangle'. -/
def fnExactOctadTriangleCard : Claim7 := { stood := { row := fnExactOctadTriangleRow, standIns := [], harness := (true, "77d6bed1ec37b7d41586533137f64d2a23bc1a3d00a6489ec63e208828f47b42"), looks := false }, kinds := [], alts := [], laidByText := true, laidKinds := [.data, .data, .data], laidTests := true, laidLooks := .later }
def FnExactOctadTriangleCardSaid : Prop := Claim7.holds Tryd.pinned (.plain (OpenSpec.ofChange fnExactOctadTriangleSpec)) fnExactOctadTriangleCard

/-- THE SECOND FORM's CARD OF 'laws.FnOctad'. -/
def fnOctadUptoCard : Claim7 := { stood := { row := fnOctadUptoRow, standIns := [], harness := (true, "77d6bed1ec37b7d41586533137f64d2a23bc1a3d00a6489ec63e208828f47b42"), looks := false }, kinds := [], alts := [], laidByText := true, laidKinds := [.data, .data, .data], laidTests := true, laidLooks := .later }
def FnOctadUptoCardSaid : Prop := Claim7.holds Tryd.pinned (.plain (OpenSpec.upto fnOctadSpec)) fnOctadUptoCard

/-- THE SECOND FORM's CARD OF 'laws.FnThrough'. -/
def fnThroughUptoCard : Claim7 := { stood := { row := fnThroughUptoRow, standIns := [], harness := (true, "77d6bed1ec37b7d41586533137f64d2a23bc1a3d00a6489ec63e208828f47b42"), looks := false }, kinds := [], alts := [], laidByText := true, laidKinds := [.data, .data, .data], laidTests := true, laidLooks := .later }
def FnThroughUptoCardSaid : Prop := Claim7.holds Tryd.pinned (.plain (OpenSpec.upto fnThroughSpec)) fnThroughUptoCard

/-- THE SECOND FORM's CARD OF 'laws.FnOctadList'. -/
def fnOctadListUptoCard : Claim7 := { stood := { row := fnOctadListUptoRow, standIns := [], harness := (true, "77d6bed1ec37b7d41586533137f64d2a23bc1a3d00a6489ec63e208828f47b42"), looks := false }, kinds := [], alts := [], laidByText := true, laidKinds := [.data, .data, .data], laidTests := true, laidLooks := .later }
def FnOctadListUptoCardSaid : Prop := Claim7.holds Tryd.pinned (.plain (OpenSpec.upto fnOctadListSpec)) fnOctadListUptoCard

/-- THE SECOND FORM's CARD OF 'laws.FnTriangle'. -/
def fnTriangleUptoCard : Claim7 := { stood := { row := fnTriangleUptoRow, standIns := [], harness := (true, "77d6bed1ec37b7d41586533137f64d2a23bc1a3d00a6489ec63e208828f47b42"), looks := false }, kinds := [], alts := [], laidByText := true, laidKinds := [.data, .data, .data], laidTests := true, laidLooks := .later }
def FnTriangleUptoCardSaid : Prop := Claim7.holds Tryd.pinned (.plain (OpenSpec.upto fnTriangleSpec)) fnTriangleUptoCard

/-- THE SECOND FORM's CARD OF 'laws.FnExactOctadThrough'. -/
def fnExactOctadThroughUptoCard : Claim7 := { stood := { row := fnExactOctadThroughUptoRow, standIns := [], harness := (true, "77d6bed1ec37b7d41586533137f64d2a23bc1a3d00a6489ec63e208828f47b42"), looks := false }, kinds := [], alts := [], laidByText := true, laidKinds := [.data, .data, .data], laidTests := true, laidLooks := .later }
def FnExactOctadThroughUptoCardSaid : Prop := Claim7.holds Tryd.pinned (.plain (OpenSpec.upto fnExactOctadThroughSpec)) fnExactOctadThroughUptoCard

/-- THE SECOND FORM's CARD OF 'laws.FnExactOctadList'. -/
def fnExactOctadListUptoCard : Claim7 := { stood := { row := fnExactOctadListUptoRow, standIns := [], harness := (true, "77d6bed1ec37b7d41586533137f64d2a23bc1a3d00a6489ec63e208828f47b42"), looks := false }, kinds := [], alts := [], laidByText := true, laidKinds := [.data, .data], laidTests := true, laidLooks := .later }
def FnExactOctadListUptoCardSaid : Prop := Claim7.holds Tryd.pinned (.plain (OpenSpec.upto fnExactOctadListSpec)) fnExactOctadListUptoCard

/-- THE SECOND FORM's CARD OF 'laws.FnExactOctadTriangle'. -/
def fnExactOctadTriangleUptoCard : Claim7 := { stood := { row := fnExactOctadTriangleUptoRow, standIns := [], harness := (true, "77d6bed1ec37b7d41586533137f64d2a23bc1a3d00a6489ec63e208828f47b42"), looks := false }, kinds := [], alts := [], laidByText := true, laidKinds := [.data, .data, .data], laidTests := true, laidLooks := .later }
def FnExactOctadTriangleUptoCardSaid : Prop := Claim7.holds Tryd.pinned (.plain (OpenSpec.upto fnExactOctadTriangleSpec)) fnExactOctadTriangleUptoCard
end Rows
end Go.Proofs.YtiinekoepoonfabDoor
