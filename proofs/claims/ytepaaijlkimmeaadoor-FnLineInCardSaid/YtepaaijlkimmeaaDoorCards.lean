/-
  DERIVED. GIVEN WITH THE SEED: THE CARDS: each row of YtepaaijlkimmeaaDoorRows.lean that lists a variable, with what it lists TIED to the program's text (the seventh form; the later family's looks); each row that meets fmt, with fmt's text TOLD by the authors' own Lean function (tested against real Go, not proved from fmt's source: count such statements apart). THE CARD IS WHAT COUNTS. Prove the row's statement (the work); the ties are given (YtepaaijlkimmeaaDoorTie.lean); close each card by the builder's one call (the guide's Derived/Test/ToyasCard.lean, 'card_holds'). Laid BY PROGRAM, IN A SANDBOX (cutbox-door.mjs). By AI agents, Wed Nov 11 2026. No macro, syntax, notation, axiom, sorry.
-/
import Derived.Test.YtepaaijlkimmeaaDoorRows
import GoSem.ClaimSeven
namespace Go.Proofs.YtepaaijlkimmeaaDoor
namespace Rows

/-- THE TIED CARD OF 'laws.FnLinePerm'. -/
def fnLinePermCard : Claim7 := { stood := { row := fnLinePermRow, standIns := [], harness := (true, "9a6f67704094ab37fdd26f10228100316eb2c1e7df8126aa46d969e9b0c6a93b"), looks := true }, kinds := [], alts := [], laidByText := true, laidKinds := [.data], laidTests := true, laidLooks := .later }
def FnLinePermCardSaid : Prop := Claim7.holds Tryd.pinned (.plain (OpenSpec.ofChange fnLinePermSpec)) fnLinePermCard

/-- THE TIED CARD OF 'laws.FnLineWord'. -/
def fnLineWordCard : Claim7 := { stood := { row := fnLineWordRow, standIns := [], harness := (true, "9a6f67704094ab37fdd26f10228100316eb2c1e7df8126aa46d969e9b0c6a93b"), looks := true }, kinds := [], alts := [], laidByText := true, laidKinds := [.data], laidTests := true, laidLooks := .later }
def FnLineWordCardSaid : Prop := Claim7.holds Tryd.pinned (.plain (OpenSpec.ofChange fnLineWordSpec)) fnLineWordCard

/-- THE TIED CARD OF 'laws.FnLineSum'. -/
def fnLineSumCard : Claim7 := { stood := { row := fnLineSumRow, standIns := [], harness := (true, "9a6f67704094ab37fdd26f10228100316eb2c1e7df8126aa46d969e9b0c6a93b"), looks := true }, kinds := [], alts := [], laidByText := true, laidKinds := [.data], laidTests := true, laidLooks := .later }
def FnLineSumCardSaid : Prop := Claim7.holds Tryd.pinned (.plain (OpenSpec.ofChange fnLineSumSpec)) fnLineSumCard

/-- THE TIED CARD OF 'laws.FnLineIn'. -/
def fnLineInCard : Claim7 := { stood := { row := fnLineInRow, standIns := [], harness := (true, "9a6f67704094ab37fdd26f10228100316eb2c1e7df8126aa46d969e9b0c6a93b"), looks := true }, kinds := [], alts := [], laidByText := true, laidKinds := [.data], laidTests := true, laidLooks := .later }
def FnLineInCardSaid : Prop := Claim7.holds Tryd.pinned (.plain (OpenSpec.ofChange fnLineInSpec)) fnLineInCard

/-- THE SECOND FORM's CARD OF 'laws.FnLinePerm'. -/
def fnLinePermUptoCard : Claim7 := { stood := { row := fnLinePermUptoRow, standIns := [], harness := (true, "9a6f67704094ab37fdd26f10228100316eb2c1e7df8126aa46d969e9b0c6a93b"), looks := true }, kinds := [], alts := [], laidByText := true, laidKinds := [.data], laidTests := true, laidLooks := .later }
def FnLinePermUptoCardSaid : Prop := Claim7.holds Tryd.pinned (.plain (OpenSpec.upto fnLinePermSpec)) fnLinePermUptoCard

/-- THE SECOND FORM's CARD OF 'laws.FnLineWord'. -/
def fnLineWordUptoCard : Claim7 := { stood := { row := fnLineWordUptoRow, standIns := [], harness := (true, "9a6f67704094ab37fdd26f10228100316eb2c1e7df8126aa46d969e9b0c6a93b"), looks := true }, kinds := [], alts := [], laidByText := true, laidKinds := [.data], laidTests := true, laidLooks := .later }
def FnLineWordUptoCardSaid : Prop := Claim7.holds Tryd.pinned (.plain (OpenSpec.upto fnLineWordSpec)) fnLineWordUptoCard

/-- THE SECOND FORM's CARD OF 'laws.FnLineSum'. -/
def fnLineSumUptoCard : Claim7 := { stood := { row := fnLineSumUptoRow, standIns := [], harness := (true, "9a6f67704094ab37fdd26f10228100316eb2c1e7df8126aa46d969e9b0c6a93b"), looks := true }, kinds := [], alts := [], laidByText := true, laidKinds := [.data], laidTests := true, laidLooks := .later }
def FnLineSumUptoCardSaid : Prop := Claim7.holds Tryd.pinned (.plain (OpenSpec.upto fnLineSumSpec)) fnLineSumUptoCard

/-- THE SECOND FORM's CARD OF 'laws.FnLineIn'. -/
def fnLineInUptoCard : Claim7 := { stood := { row := fnLineInUptoRow, standIns := [], harness := (true, "9a6f67704094ab37fdd26f10228100316eb2c1e7df8126aa46d969e9b0c6a93b"), looks := true }, kinds := [], alts := [], laidByText := true, laidKinds := [.data], laidTests := true, laidLooks := .later }
def FnLineInUptoCardSaid : Prop := Claim7.holds Tryd.pinned (.plain (OpenSpec.upto fnLineInSpec)) fnLineInUptoCard
end Rows
end Go.Proofs.YtepaaijlkimmeaaDoor
