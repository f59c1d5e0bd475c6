/-
  DERIVED. GIVEN WITH THE SEED: THE CARDS: each row of YtagniijhbiglaaaDoorRows.lean that lists a variable, with what it lists TIED to the program's text (the seventh form; the later family's looks); each row that meets fmt, with fmt's text TOLD by the authors' own Lean function (tested against real Go, not proved from fmt's source: count such statements apart). THE CARD IS WHAT COUNTS. Prove the row's statement (the work); the ties are given (YtagniijhbiglaaaDoorTie.lean); close each card by the builder's one call (the guide's Derived/Test/ToyasCard.lean, 'card_holds'). Laid BY PROGRAM, IN A SANDBOX (cutbox-door.mjs). By AI agents, Wed Nov 11 2026. No macro, syntax, notation, axiom, sorry.
-/
import Derived.Test.YtagniijhbiglaaaDoorRows
import GoSem.ClaimSeven
namespace Go.Proofs.YtagniijhbiglaaaDoor
namespace Rows

/-- THE TIED CARD OF 'laws.FnSextet'. -/
def fnSextetCard : Claim7 := { stood := { row := fnSextetRow, standIns := [], harness := (true, "f06465956a778e495900aa22e58a32d114c3bc2047b35020c45344cdce8adccd"), looks := false }, kinds := [], alts := [], laidByText := true, laidKinds := [.data, .data, .data], laidTests := true, laidLooks := .later }
def FnSextetCardSaid : Prop := Claim7.holds Tryd.pinned (.plain (OpenSpec.ofChange fnSextetSpec)) fnSextetCard

/-- THE TIED CARD OF 'laws.FnSextetValid'. -/
def fnSextetValidCard : Claim7 := { stood := { row := fnSextetValidRow, standIns := [], harness := (true, "f06465956a778e495900aa22e58a32d114c3bc2047b35020c45344cdce8adccd"), looks := false }, kinds := [], alts := [], laidByText := true, laidKinds := [.data, .data], laidTests := true, laidLooks := .later }
def FnSextetValidCardSaid : Prop := Claim7.holds Tryd.pinned (.plain (OpenSpec.ofChange fnSextetValidSpec)) fnSextetValidCard

/-- THE TIED CARD OF 'laws.FnTable'. -/
def fnTableCard : Claim7 := { stood := { row := fnTableRow, standIns := [], harness := (true, "f06465956a778e495900aa22e58a32d114c3bc2047b35020c45344cdce8adccd"), looks := false }, kinds := [], alts := [], laidByText := true, laidKinds := [.data, .data], laidTests := true, laidLooks := .later }
def FnTableCardSaid : Prop := Claim7.holds Tryd.pinned (.plain (OpenSpec.ofChange fnTableSpec)) fnTableCard

/-- THE TIED CARD OF 'laws.FnKind'. -/
def fnKindCard : Claim7 := { stood := { row := fnKindRow, standIns := [], harness := (true, "f06465956a778e495900aa22e58a32d114c3bc2047b35020c45344cdce8adccd"), looks := false }, kinds := [], alts := [], laidByText := true, laidKinds := [.data, .data], laidTests := true, laidLooks := .later }
def FnKindCardSaid : Prop := Claim7.holds Tryd.pinned (.plain (OpenSpec.ofChange fnKindSpec)) fnKindCard

/-- THE TIED CARD OF 'laws.FnSextetSum'. -/
def fnSextetSumCard : Claim7 := { stood := { row := fnSextetSumRow, standIns := [], harness := (true, "f06465956a778e495900aa22e58a32d114c3bc2047b35020c45344cdce8adccd"), looks := false }, kinds := [], alts := [], laidByText := true, laidKinds := [.data, .data], laidTests := true, laidLooks := .later }
def FnSextetSumCardSaid : Prop := Claim7.holds Tryd.pinned (.plain (OpenSpec.ofChange fnSextetSumSpec)) fnSextetSumCard

/-- THE TIED CARD OF 'laws.FnTriangle'. -/
def fnTriangleCard : Claim7 := { stood := { row := fnTriangleRow, standIns := [], harness := (true, "f06465956a778e495900aa22e58a32d114c3bc2047b35020c45344cdce8adccd"), looks := false }, kinds := [], alts := [], laidByText := true, laidKinds := [.data, .data, .data], laidTests := true, laidLooks := .later }
def FnTriangleCardSaid : Prop := Claim7.holds Tryd.pinned (.plain (OpenSpec.ofChange fnTriangleSpec)) fnTriangleCard

/-- THE TIED CARD OF 'laws.FnOctad'. -/
def fnOctadCard : Claim7 := { stood := { row := fnOctadRow, standIns := [], harness := (true, "f06465956a778e495900aa22e58a32d114c3bc2047b35020c45344cdce8adccd"), looks := false }, kinds := [], alts := [], laidByText := true, laidKinds := [.data, .data, .data], laidTests := true, laidLooks := .later }
def FnOctadCardSaid : Prop := Claim7.holds Tryd.pinned (.plain (OpenSpec.ofChange fnOctadSpec)) fnOctadCard

/-- THE TIED CARD OF 'laws.FnThrough'. -/
def fnThroughCard : Claim7 := { stood := { row := fnThroughRow, standIns := [], harness := (true, "f06465956a778e495900aa22e58a32d114c3bc2047b35020c45344cdce8adccd"), looks := false }, kinds := [], alts := [], laidByText := true, laidKinds := [.data, .data, .data], laidTests := true, laidLooks := .later }
def FnThroughCardSaid : Prop := Claim7.holds Tryd.pinned (.plain (OpenSpec.ofChange fnThroughSpec)) fnThroughCard

/-- THE SECOND FORM's CARD OF 'laws.FnSextet'. -/
def fnSextetUptoCard : Claim7 := { stood := { row := fnSextetUptoRow, standIns := [], harness := (true, "f06465956a778e495900aa22e58a32d114c3bc2047b35020c45344cdce8adccd"), looks := false }, kinds := [], alts := [], laidByText := true, laidKinds := [.data, .data, .data], laidTests := true, laidLooks := .later }
def FnSextetUptoCardSaid : Prop := Claim7.holds Tryd.pinned (.plain (OpenSpec.upto fnSextetSpec)) fnSextetUptoCard

/-- THE SECOND FORM's CARD OF 'laws.FnSextetValid'. -/
def fnSextetValidUptoCard : Claim7 := { stood := { row := fnSextetValidUptoRow, standIns := [], harness := (true, "f06465956a778e495900aa22e58a32d114c3bc2047b35020c45344cdce8adccd"), looks := false }, kinds := [], alts := [], laidByText := true, laidKinds := [.data, .data], laidTests := true, laidLooks := .later }
def FnSextetValidUptoCardSaid : Prop := Claim7.holds Tryd.pinned (.plain (OpenSpec.upto fnSextetValidSpec)) fnSextetValidUptoCard

/-- THE SECOND FORM's CARD OF 'laws.FnTable'. -/
def fnTableUptoCard : Claim7 := { stood := { row := fnTableUptoRow, standIns := [], harness := (true, "f06465956a778e495900aa22e58a32d114c3bc2047b35020c45344cdce8adccd"), looks := false }, kinds := [], alts := [], laidByText := true, laidKinds := [.data, .data], laidTests := true, laidLooks := .later }
def FnTableUptoCardSaid : Prop := Claim7.holds Tryd.pinned (.plain (OpenSpec.upto fnTableSpec)) fnTableUptoCard

/-- THE SECOND FORM's CARD OF 'laws.FnKind'. -/
def fnKindUptoCard : Claim7 := { stood := { row := fnKindUptoRow, standIns := [], harness := (true, "f06465956a778e495900aa22e58a32d114c3bc2047b35020c45344cdce8adccd"), looks := false }, kinds := [], alts := [], laidByText := true, laidKinds := [.data, .data], laidTests := true, laidLooks := .later }
def FnKindUptoCardSaid : Prop := Claim7.holds Tryd.pinned (.plain (OpenSpec.upto fnKindSpec)) fnKindUptoCard

/-- THE SECOND FORM's CARD OF 'laws.FnSextetSum'. -/
def fnSextetSumUptoCard : Claim7 := { stood := { row := fnSextetSumUptoRow, standIns := [], harness := (true, "f06465956a778e495900aa22e58a32d114c3bc2047b35020c45344cdce8adccd"), looks := false }, kinds := [], alts := [], laidByText := true, laidKinds := [.data, .data], laidTests := true, laidLooks := .later }
def FnSextetSumUptoCardSaid : Prop := Claim7.holds Tryd.pinned (.plain (OpenSpec.upto fnSextetSumSpec)) fnSextetSumUptoCard

/-- THE SECOND FORM's CARD OF 'laws.FnTriangle'. -/
def fnTriangleUptoCard : Claim7 := { stood := { row := fnTriangleUptoRow, standIns := [], harness := (true, "f06465956a778e495900aa22e58a32d114c3bc2047b35020c45344cdce8adccd"), looks := false }, kinds := [], alts := [], laidByText := true, laidKinds := [.data, .data, .data], laidTests := true, laidLooks := .later }
def FnTriangleUptoCardSaid : Prop := Claim7.holds Tryd.pinned (.plain (OpenSpec.upto fnTriangleSpec)) fnTriangleUptoCard

/-- THE SECOND FORM's CARD OF 'laws.FnOctad'. -/
def fnOctadUptoCard : Claim7 := { stood := { row := fnOctadUptoRow, standIns := [], harness := (true, "f06465956a778e495900aa22e58a32d114c3bc2047b35020c45344cdce8adccd"), looks := false }, kinds := [], alts := [], laidByText := true, laidKinds := [.data, .data, .data], laidTests := true, laidLooks := .later }
def FnOctadUptoCardSaid : Prop := Claim7.holds Tryd.pinned (.plain (OpenSpec.upto fnOctadSpec)) fnOctadUptoCard

/-- THE SECOND FORM's CARD OF 'laws.FnThrough'. -/
def fnThroughUptoCard : Claim7 := { stood := { row := fnThroughUptoRow, standIns := [], harness := (true, "f06465956a778e495900aa22e58a32d114c3bc2047b35020c45344cdce8adccd"), looks := false }, kinds := [], alts := [], laidByText := true, laidKinds := [.data, .data, .data], laidTests := true, laidLooks := .later }
def FnThroughUptoCardSaid : Prop := Claim7.holds Tryd.pinned (.plain (OpenSpec.upto fnThroughSpec)) fnThroughUptoCard
end Rows
end Go.Proofs.YtagniijhbiglaaaDoor
