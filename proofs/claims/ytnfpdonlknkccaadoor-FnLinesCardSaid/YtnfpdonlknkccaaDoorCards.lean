/-
  DERIVED. GIVEN WITH THE SEED: THE CARDS: each row of YtnfpdonlknkccaaDoorRows.lean that lists a variable, with what it lists TIED to the program's text (the seventh form; the later family's looks); each row that meets fmt, with fmt's text TOLD by the authors' own Lean function (tested against real Go, not proved from fmt's source: count such statements apart). THE CARD IS WHAT COUNTS. Prove the row's statement (the work); the ties are given (YtnfpdonlknkccaaDoorTie.lean); close each card by the builder's one call (the guide's Derived/Test/ToyasCard.lean, 'card_holds'). Laid BY PROGRAM, IN A SANDBOX (cutbox-door.mjs). By AI agents, Wed Nov 11 2026. No macro, syntax, notation, axiom, sorry.
-/
import Derived.Test.YtnfpdonlknkccaaDoorRows
import GoSem.ClaimSeven
namespace Go.Proofs.YtnfpdonlknkccaaDoor
namespace Rows

/-- THE TIED CARD OF 'laws.FnLines'. -/
def fnLinesCard : Claim7 := { stood := { row := fnLinesRow, standIns := [], harness := (true, "dafff4c7dff8ae70974bec8f50e694cc01a707c7f1cc01032969c8669749848a"), looks := false }, kinds := [], alts := [], laidByText := true, laidKinds := [.data, .data], laidTests := true, laidLooks := .later }
def FnLinesCardSaid : Prop := Claim7.holds Tryd.pinned (.plain (OpenSpec.ofChange fnLinesSpec)) fnLinesCard

/-- THE TIED CARD OF 'laws.FnPoint'. -/
def fnPointCard : Claim7 := { stood := { row := fnPointRow, standIns := [], harness := (true, "dafff4c7dff8ae70974bec8f50e694cc01a707c7f1cc01032969c8669749848a"), looks := false }, kinds := [], alts := [], laidByText := true, laidKinds := [.data, .data, .data], laidTests := true, laidLooks := .later }
def FnPointCardSaid : Prop := Claim7.holds Tryd.pinned (.plain (OpenSpec.ofChange fnPointSpec)) fnPointCard

/-- THE SECOND FORM's CARD OF 'laws.FnLines'. -/
def fnLinesUptoCard : Claim7 := { stood := { row := fnLinesUptoRow, standIns := [], harness := (true, "dafff4c7dff8ae70974bec8f50e694cc01a707c7f1cc01032969c8669749848a"), looks := false }, kinds := [], alts := [], laidByText := true, laidKinds := [.data, .data], laidTests := true, laidLooks := .later }
def FnLinesUptoCardSaid : Prop := Claim7.holds Tryd.pinned (.plain (OpenSpec.upto fnLinesSpec)) fnLinesUptoCard

/-- THE SECOND FORM's CARD OF 'laws.FnPoint'. -/
def fnPointUptoCard : Claim7 := { stood := { row := fnPointUptoRow, standIns := [], harness := (true, "dafff4c7dff8ae70974bec8f50e694cc01a707c7f1cc01032969c8669749848a"), looks := false }, kinds := [], alts := [], laidByText := true, laidKinds := [.data, .data, .data], laidTests := true, laidLooks := .later }
def FnPointUptoCardSaid : Prop := Claim7.holds Tryd.pinned (.plain (OpenSpec.upto fnPointSpec)) fnPointUptoCard
end Rows
end Go.Proofs.YtnfpdonlknkccaaDoor
