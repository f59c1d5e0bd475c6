/-
  DERIVED. GIVEN WITH THE SEED: THE CARDS: each row of YtagniijhbiglaabDoorRows.lean that lists a variable, with what it lists TIED to the program's text (the seventh form; the later family's looks); each row that meets fmt, with fmt's text TOLD by the authors' own Lean function (tested against real Go, not proved from fmt's source: count such statements apart). THE CARD IS WHAT COUNTS. Prove the row's statement (the work); the ties are given (YtagniijhbiglaabDoorTie.lean); close each card by the builder's one call (the guide's Derived/Test/ToyasCard.lean, 'card_holds'). Laid BY PROGRAM, IN A SANDBOX (cutbox-door.mjs). By AI agents, Wed Nov 11 2026. No macro, syntax, notation, axiom, sorry.
-/
import Derived.Test.YtagniijhbiglaabDoorRows
import GoSem.ClaimSeven
namespace Go.Proofs.YtagniijhbiglaabDoor
namespace Rows

/-- THE TIED CARD OF 'laws.FnExactSextetOf'. -/
def fnExactSextetOfCard : Claim7 := { stood := { row := fnExactSextetOfRow, standIns := [], harness := (true, "d4585c6ef8fd1870414ac25c5f5057dc96d15d5be7a45c5d4fa5e44454ca7bef"), looks := false }, kinds := [], alts := [], laidByText := true, laidKinds := [.data, .data], laidTests := true, laidLooks := .later }
def FnExactSextetOfCardSaid : Prop := Claim7.holds Tryd.pinned (.plain (OpenSpec.ofChange fnExactSextetOfSpec)) fnExactSextetOfCard

/-- THE TIED CARD OF 'laws.FnExactSextetValid'. -/
def fnExactSextetValidCard : Claim7 := { stood := { row := fnExactSextetValidRow, standIns := [], harness := (true, "d4585c6ef8fd1870414ac25c5f5057dc96d15d5be7a45c5d4fa5e44454ca7bef"), looks := false }, kinds := [], alts := [], laidByText := true, laidKinds := [.data, .data], laidTests := true, laidLooks := .later }
def FnExactSextetValidCardSaid : Prop := Claim7.holds Tryd.pinned (.plain (OpenSpec.ofChange fnExactSextetValidSpec)) fnExactSextetValidCard

/-- THE TIED CARD OF 'laws.FnExactSextetTable'. -/
def fnExactSextetTableCard : Claim7 := { stood := { row := fnExactSextetTableRow, standIns := [], harness := (true, "d4585c6ef8fd1870414ac25c5f5057dc96d15d5be7a45c5d4fa5e44454ca7bef"), looks := false }, kinds := [], alts := [], laidByText := true, laidKinds := [.data, .data], laidTests := true, laidLooks := .later }
def FnExactSextetTableCardSaid : Prop := Claim7.holds Tryd.pinned (.plain (OpenSpec.ofChange fnExactSextetTableSpec)) fnExactSextetTableCard

/-- THE TIED CARD OF 'laws.FnExactSextetKind'. -/
def fnExactSextetKindCard : Claim7 := { stood := { row := fnExactSextetKindRow, standIns := [], harness := (true, "d4585c6ef8fd1870414ac25c5f5057dc96d15d5be7a45c5d4fa5e44454ca7bef"), looks := false }, kinds := [], alts := [], laidByText := true, laidKinds := [.data, .data], laidTests := true, laidLooks := .later }
def FnExactSextetKindCardSaid : Prop := Claim7.holds Tryd.pinned (.plain (OpenSpec.ofChange fnExactSextetKindSpec)) fnExactSextetKindCard

/-- THE TIED CARD OF 'laws.FnExactSextetSum'. -/
def fnExactSextetSumCard : Claim7 := { stood := { row := fnExactSextetSumRow, standIns := [], harness := (true, "d4585c6ef8fd1870414ac25c5f5057dc96d15d5be7a45c5d4fa5e44454ca7bef"), looks := false }, kinds := [], alts := [], laidByText := true, laidKinds := [.data, .data], laidTests := true, laidLooks := .later }
def FnExactSextetSumCardSaid : Prop := Claim7.holds Tryd.pinned (.plain (OpenSpec.ofChange fnExactSextetSumSpec)) fnExactSextetSumCard

/-- THE TIED CARD OF 'laws.FnExactSextetOctads'. -/
def fnExactSextetOctadsCard : Claim7 := { stood := { row := fnExactSextetOctadsRow, standIns := [], harness := (true, "d4585c6ef8fd1870414ac25c5f5057dc96d15d5be7a45c5d4fa5e44454ca7bef"), looks := false }, kinds := [], alts := [], laidByText := true, laidKinds := [.data, .data], laidTests := true, laidLooks := .later }
def FnExactSextetOctadsCardSaid : Prop := Claim7.holds Tryd.pinned (.plain (OpenSpec.ofChange fnExactSextetOctadsSpec)) fnExactSextetOctadsCard

/-- THE TIED CARD OF 'laws.FnExactSextetHolds'. -/
def fnExactSextetHoldsCard : Claim7 := { stood := { row := fnExactSextetHoldsRow, standIns := [], harness := (true, "d4585c6ef8fd1870414ac25c5f5057dc96d15d5be7a45c5d4fa5e44454ca7bef"), looks := false }, kinds := [], alts := [], laidByText := true, laidKinds := [.data, .data], laidTests := true, laidLooks := .later }
def FnExactSextetHoldsCardSaid : Prop := Claim7.holds Tryd.pinned (.plain (OpenSpec.ofChange fnExactSextetHoldsSpec)) fnExactSextetHoldsCard

/-- THE TIED CARD OF 'laws.FnExactOctadTriangle'. -/
def fnExactOctadTriangleCard : Claim7 := { stood := { row := fnExactOctadTriangleRow, standIns := [], harness := (true, "d4585c6ef8fd1870414ac25c5f5057dc96d15d5be7a45c5d4fa5e44454ca7bef"), looks := false }, kinds := [], alts := [], laidByText := true, laidKinds := [.data, .data, .data], laidTests := true, laidLooks := .later }
def FnExactOctadTriangleCardSaid : Prop := Claim7.holds Tryd.pinned (.plain (OpenSpec.ofChange fnExactOctadTriangleSpec)) fnExactOctadTriangleCard

/-- THE TIED CARD OF 'laws.FnExactOctadThrough'. -/
def fnExactOctadThroughCard : Claim7 := { stood := { row := fnExactOctadThroughRow, standIns := [], harness := (true, "d4585c6ef8fd1870414ac25c5f5057dc96d15d5be7a45c5d4fa5e44454ca7bef"), looks := false }, kinds := [], alts := [], laidByText := true, laidKinds := [.data, .data, .data], laidTests := true, laidLooks := .later }
def FnExactOctadThroughCardSaid : Prop := Claim7.holds Tryd.pinned (.plain (OpenSpec.ofChange fnExactOctadThroughSpec)) fnExactOctadThroughCard

/-- THE SECOND FORM's CARD OF 'laws.FnExactSextetOf'. -/
def fnExactSextetOfUptoCard : Claim7 := { stood := { row := fnExactSextetOfUptoRow, standIns := [], harness := (true, "d4585c6ef8fd1870414ac25c5f5057dc96d15d5be7a45c5d4fa5e44454ca7bef"), looks := false }, kinds := [], alts := [], laidByText := true, laidKinds := [.data, .data], laidTests := true, laidLooks := .later }
def FnExactSextetOfUptoCardSaid : Prop := Claim7.holds Tryd.pinned (.plain (OpenSpec.upto fnExactSextetOfSpec)) fnExactSextetOfUptoCard

/-- THE SECOND FORM's CARD OF 'laws.FnExactSextetValid'. -/
def fnExactSextetValidUptoCard : Claim7 := { stood := { row := fnExactSextetValidUptoRow, standIns := [], harness := (true, "d4585c6ef8fd1870414ac25c5f5057dc96d15d5be7a45c5d4fa5e44454ca7bef"), looks := false }, kinds := [], alts := [], laidByText := true, laidKinds := [.data, .data], laidTests := true, laidLooks := .later }
def FnExactSextetValidUptoCardSaid : Prop := Claim7.holds Tryd.pinned (.plain (OpenSpec.upto fnExactSextetValidSpec)) fnExactSextetValidUptoCard

/-- THE SECOND FORM's CARD OF 'laws.FnExactSextetTable'. -/
def fnExactSextetTableUptoCard : Claim7 := { stood := { row := fnExactSextetTableUptoRow, standIns := [], harness := (true, "d4585c6ef8fd1870414ac25c5f5057dc96d15d5be7a45c5d4fa5e44454ca7bef"), looks := false }, kinds := [], alts := [], laidByText := true, laidKinds := [.data, .data], laidTests := true, laidLooks := .later }
def FnExactSextetTableUptoCardSaid : Prop := Claim7.holds Tryd.pinned (.plain (OpenSpec.upto fnExactSextetTableSpec)) fnExactSextetTableUptoCard

/-- THE SECOND FORM's CARD OF 'laws.FnExactSextetKind'. -/
def fnExactSextetKindUptoCard : Claim7 := { stood := { row := fnExactSextetKindUptoRow, standIns := [], harness := (true, "d4585c6ef8fd1870414ac25c5f5057dc96d15d5be7a45c5d4fa5e44454ca7bef"), looks := false }, kinds := [], alts := [], laidByText := true, laidKinds := [.data, .data], laidTests := true, laidLooks := .later }
def FnExactSextetKindUptoCardSaid : Prop := Claim7.holds Tryd.pinned (.plain (OpenSpec.upto fnExactSextetKindSpec)) fnExactSextetKindUptoCard

/-- THE SECOND FORM's CARD OF 'laws.FnExactSextetSum'. -/
def fnExactSextetSumUptoCard : Claim7 := { stood := { row := fnExactSextetSumUptoRow, standIns := [], harness := (true, "d4585c6ef8fd1870414ac25c5f5057dc96d15d5be7a45c5d4fa5e44454ca7bef"), looks := false }, kinds := [], alts := [], laidByText := true, laidKinds := [.data, .data], laidTests := true, laidLooks := .later }
def FnExactSextetSumUptoCardSaid : Prop := Claim7.holds Tryd.pinned (.plain (OpenSpec.upto fnExactSextetSumSpec)) fnExactSextetSumUptoCard

/-- THE SECOND FORM's CARD OF 'laws.FnExactSextetOctads'. -/
def fnExactSextetOctadsUptoCard : Claim7 := { stood := { row := fnExactSextetOctadsUptoRow, standIns := [], harness := (true, "d4585c6ef8fd1870414ac25c5f5057dc96d15d5be7a45c5d4fa5e44454ca7bef"), looks := false }, kinds := [], alts := [], laidByText := true, laidKinds := [.data, .data], laidTests := true, laidLooks := .later }
def FnExactSextetOctadsUptoCardSaid : Prop := Claim7.holds Tryd.pinned (.plain (OpenSpec.upto fnExactSextetOctadsSpec)) fnExactSextetOctadsUptoCard

/-- THE SECOND FORM's CARD OF 'laws.FnExactSextetHolds'. -/
def fnExactSextetHoldsUptoCard : Claim7 := { stood := { row := fnExactSextetHoldsUptoRow, standIns := [], harness := (true, "d4585c6ef8fd1870414ac25c5f5057dc96d15d5be7a45c5d4fa5e44454ca7bef"), looks := false }, kinds := [], alts := [], laidByText := true, laidKinds := [.data, .data], laidTests := true, laidLooks := .later }
def FnExactSextetHoldsUptoCardSaid : Prop := Claim7.holds Tryd.pinned (.plain (OpenSpec.upto fnExactSextetHoldsSpec)) fnExactSextetHoldsUptoCard

/-- THE SECOND FORM's CARD OF 'laws.FnExactOctadTriangle'. -/
def fnExactOctadTriangleUptoCard : Claim7 := { stood := { row := fnExactOctadTriangleUptoRow, standIns := [], harness := (true, "d4585c6ef8fd1870414ac25c5f5057dc96d15d5be7a45c5d4fa5e44454ca7bef"), looks := false }, kinds := [], alts := [], laidByText := true, laidKinds := [.data, .data, .data], laidTests := true, laidLooks := .later }
def FnExactOctadTriangleUptoCardSaid : Prop := Claim7.holds Tryd.pinned (.plain (OpenSpec.upto fnExactOctadTriangleSpec)) fnExactOctadTriangleUptoCard

/-- THE SECOND FORM's CARD OF 'laws.FnExactOctadThrough'. -/
def fnExactOctadThroughUptoCard : Claim7 := { stood := { row := fnExactOctadThroughUptoRow, standIns := [], harness := (true, "d4585c6ef8fd1870414ac25c5f5057dc96d15d5be7a45c5d4fa5e44454ca7bef"), looks := false }, kinds := [], alts := [], laidByText := true, laidKinds := [.data, .data, .data], laidTests := true, laidLooks := .later }
def FnExactOctadThroughUptoCardSaid : Prop := Claim7.holds Tryd.pinned (.plain (OpenSpec.upto fnExactOctadThroughSpec)) fnExactOctadThroughUptoCard
end Rows
end Go.Proofs.YtagniijhbiglaabDoor
