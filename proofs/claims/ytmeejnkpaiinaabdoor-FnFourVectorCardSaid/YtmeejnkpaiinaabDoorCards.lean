/-
  DERIVED. GIVEN WITH THE SEED: THE CARDS: each row of YtmeejnkpaiinaabDoorRows.lean that lists a variable, with what it lists TIED to the program's text (the seventh form; the later family's looks); each row that meets fmt, with fmt's text TOLD by the authors' own Lean function (tested against real Go, not proved from fmt's source: count such statements apart). THE CARD IS WHAT COUNTS. Prove the row's statement (the work); the ties are given (YtmeejnkpaiinaabDoorTie.lean); close each card by the builder's one call (the guide's Derived/Test/ToyasCard.lean, 'card_holds'). Laid BY PROGRAM, IN A SANDBOX (cutbox-door.mjs). By AI agents, Wed Nov 11 2026. No macro, syntax, notation, axiom, sorry.
-/
import Derived.Test.YtmeejnkpaiinaabDoorRows
import GoSem.ClaimSeven
namespace Go.Proofs.YtmeejnkpaiinaabDoor
namespace Rows

/-- THE TIED CARD OF 'laws.FnLattice'. -/
def fnLatticeCard : Claim7 := { stood := { row := fnLatticeRow, standIns := [], harness := (true, "f83470754ad71f0fddaabdb94c8b636826cc46e39abc96e912f080d237caab44"), looks := false }, kinds := [], alts := [], laidByText := true, laidKinds := [.data, .data, .data], laidTests := true, laidLooks := .later }
def FnLatticeCardSaid : Prop := Claim7.holds Tryd.pinned (.plain (OpenSpec.ofChange fnLatticeSpec)) fnLatticeCard

/-- THE TIED CARD OF 'laws.FnLatticeAdd'. -/
def fnLatticeAddCard : Claim7 := { stood := { row := fnLatticeAddRow, standIns := [], harness := (true, "f83470754ad71f0fddaabdb94c8b636826cc46e39abc96e912f080d237caab44"), looks := false }, kinds := [], alts := [], laidByText := true, laidKinds := [.data, .data, .data], laidTests := true, laidLooks := .later }
def FnLatticeAddCardSaid : Prop := Claim7.holds Tryd.pinned (.plain (OpenSpec.ofChange fnLatticeAddSpec)) fnLatticeAddCard

/-- THE TIED CARD OF 'laws.FnInner'. -/
def fnInnerCard : Claim7 := { stood := { row := fnInnerRow, standIns := [], harness := (true, "f83470754ad71f0fddaabdb94c8b636826cc46e39abc96e912f080d237caab44"), looks := false }, kinds := [], alts := [], laidByText := true, laidKinds := [.data, .data, .data], laidTests := true, laidLooks := .later }
def FnInnerCardSaid : Prop := Claim7.holds Tryd.pinned (.plain (OpenSpec.ofChange fnInnerSpec)) fnInnerCard

/-- THE TIED CARD OF 'laws.FnFlip'. -/
def fnFlipCard : Claim7 := { stood := { row := fnFlipRow, standIns := [], harness := (true, "f83470754ad71f0fddaabdb94c8b636826cc46e39abc96e912f080d237caab44"), looks := false }, kinds := [], alts := [], laidByText := true, laidKinds := [.data, .data, .data], laidTests := true, laidLooks := .later }
def FnFlipCardSaid : Prop := Claim7.holds Tryd.pinned (.plain (OpenSpec.ofChange fnFlipSpec)) fnFlipCard

/-- THE TIED CARD OF 'laws.FnOctadVector'. -/
def fnOctadVectorCard : Claim7 := { stood := { row := fnOctadVectorRow, standIns := [], harness := (true, "f83470754ad71f0fddaabdb94c8b636826cc46e39abc96e912f080d237caab44"), looks := false }, kinds := [], alts := [], laidByText := true, laidKinds := [.data, .data, .data], laidTests := true, laidLooks := .later }
def FnOctadVectorCardSaid : Prop := Claim7.holds Tryd.pinned (.plain (OpenSpec.ofChange fnOctadVectorSpec)) fnOctadVectorCard

/-- THE TIED CARD OF 'laws.FnThree'. -/
def fnThreeCard : Claim7 := { stood := { row := fnThreeRow, standIns := [], harness := (true, "f83470754ad71f0fddaabdb94c8b636826cc46e39abc96e912f080d237caab44"), looks := false }, kinds := [], alts := [], laidByText := true, laidKinds := [.data, .data, .data], laidTests := true, laidLooks := .later }
def FnThreeCardSaid : Prop := Claim7.holds Tryd.pinned (.plain (OpenSpec.ofChange fnThreeSpec)) fnThreeCard

/-- THE TIED CARD OF 'laws.FnFourVector'. -/
def fnFourVectorCard : Claim7 := { stood := { row := fnFourVectorRow, standIns := [], harness := (true, "f83470754ad71f0fddaabdb94c8b636826cc46e39abc96e912f080d237caab44"), looks := false }, kinds := [], alts := [], laidByText := true, laidKinds := [.data, .data, .data], laidTests := true, laidLooks := .later }
def FnFourVectorCardSaid : Prop := Claim7.holds Tryd.pinned (.plain (OpenSpec.ofChange fnFourVectorSpec)) fnFourVectorCard

/-- THE SECOND FORM's CARD OF 'laws.FnLattice'. -/
def fnLatticeUptoCard : Claim7 := { stood := { row := fnLatticeUptoRow, standIns := [], harness := (true, "f83470754ad71f0fddaabdb94c8b636826cc46e39abc96e912f080d237caab44"), looks := false }, kinds := [], alts := [], laidByText := true, laidKinds := [.data, .data, .data], laidTests := true, laidLooks := .later }
def FnLatticeUptoCardSaid : Prop := Claim7.holds Tryd.pinned (.plain (OpenSpec.upto fnLatticeSpec)) fnLatticeUptoCard

/-- THE SECOND FORM's CARD OF 'laws.FnLatticeAdd'. -/
def fnLatticeAddUptoCard : Claim7 := { stood := { row := fnLatticeAddUptoRow, standIns := [], harness := (true, "f83470754ad71f0fddaabdb94c8b636826cc46e39abc96e912f080d237caab44"), looks := false }, kinds := [], alts := [], laidByText := true, laidKinds := [.data, .data, .data], laidTests := true, laidLooks := .later }
def FnLatticeAddUptoCardSaid : Prop := Claim7.holds Tryd.pinned (.plain (OpenSpec.upto fnLatticeAddSpec)) fnLatticeAddUptoCard

/-- THE SECOND FORM's CARD OF 'laws.FnInner'. -/
def fnInnerUptoCard : Claim7 := { stood := { row := fnInnerUptoRow, standIns := [], harness := (true, "f83470754ad71f0fddaabdb94c8b636826cc46e39abc96e912f080d237caab44"), looks := false }, kinds := [], alts := [], laidByText := true, laidKinds := [.data, .data, .data], laidTests := true, laidLooks := .later }
def FnInnerUptoCardSaid : Prop := Claim7.holds Tryd.pinned (.plain (OpenSpec.upto fnInnerSpec)) fnInnerUptoCard

/-- THE SECOND FORM's CARD OF 'laws.FnFlip'. -/
def fnFlipUptoCard : Claim7 := { stood := { row := fnFlipUptoRow, standIns := [], harness := (true, "f83470754ad71f0fddaabdb94c8b636826cc46e39abc96e912f080d237caab44"), looks := false }, kinds := [], alts := [], laidByText := true, laidKinds := [.data, .data, .data], laidTests := true, laidLooks := .later }
def FnFlipUptoCardSaid : Prop := Claim7.holds Tryd.pinned (.plain (OpenSpec.upto fnFlipSpec)) fnFlipUptoCard

/-- THE SECOND FORM's CARD OF 'laws.FnOctadVector'. -/
def fnOctadVectorUptoCard : Claim7 := { stood := { row := fnOctadVectorUptoRow, standIns := [], harness := (true, "f83470754ad71f0fddaabdb94c8b636826cc46e39abc96e912f080d237caab44"), looks := false }, kinds := [], alts := [], laidByText := true, laidKinds := [.data, .data, .data], laidTests := true, laidLooks := .later }
def FnOctadVectorUptoCardSaid : Prop := Claim7.holds Tryd.pinned (.plain (OpenSpec.upto fnOctadVectorSpec)) fnOctadVectorUptoCard

/-- THE SECOND FORM's CARD OF 'laws.FnThree'. -/
def fnThreeUptoCard : Claim7 := { stood := { row := fnThreeUptoRow, standIns := [], harness := (true, "f83470754ad71f0fddaabdb94c8b636826cc46e39abc96e912f080d237caab44"), looks := false }, kinds := [], alts := [], laidByText := true, laidKinds := [.data, .data, .data], laidTests := true, laidLooks := .later }
def FnThreeUptoCardSaid : Prop := Claim7.holds Tryd.pinned (.plain (OpenSpec.upto fnThreeSpec)) fnThreeUptoCard

/-- THE SECOND FORM's CARD OF 'laws.FnFourVector'. -/
def fnFourVectorUptoCard : Claim7 := { stood := { row := fnFourVectorUptoRow, standIns := [], harness := (true, "f83470754ad71f0fddaabdb94c8b636826cc46e39abc96e912f080d237caab44"), looks := false }, kinds := [], alts := [], laidByText := true, laidKinds := [.data, .data, .data], laidTests := true, laidLooks := .later }
def FnFourVectorUptoCardSaid : Prop := Claim7.holds Tryd.pinned (.plain (OpenSpec.upto fnFourVectorSpec)) fnFourVectorUptoCard
end Rows
end Go.Proofs.YtmeejnkpaiinaabDoor
