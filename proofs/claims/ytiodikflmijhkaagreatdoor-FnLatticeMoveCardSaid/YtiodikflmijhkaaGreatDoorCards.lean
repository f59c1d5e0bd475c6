/-
  DERIVED. GIVEN WITH THE SEED: THE CARDS: each row of YtiodikflmijhkaaGreatDoorRows.lean that lists a variable, with what it lists TIED to the program's text (the seventh form; the later family's looks); each row that meets fmt, with fmt's text TOLD by the authors' own Lean function (tested against real Go, not proved from fmt's source: count such statements apart). THE CARD IS WHAT COUNTS. Prove the row's statement (the work); the ties are given (YtiodikflmijhkaaGreatDoorTie.lean); close each card by the builder's one call (the guide's Derived/Test/ToyasCard.lean, 'card_holds'). Laid BY PROGRAM, IN A SANDBOX (cutbox-door.mjs). By AI agents, Wed Nov 11 2026. No macro, syntax, notation, axiom, sorry.
-/
import Derived.Test.YtiodikflmijhkaaGreatDoorRows
import GoSem.ClaimSeven
namespace Go.Proofs.YtiodikflmijhkaaGreatDoor
namespace Rows

/-- THE TIED CARD OF 'laws.FnLatticeMove'. -/
def fnLatticeMoveCard : Claim7 := { stood := { row := fnLatticeMoveRow, standIns := [], harness := (true, "335537fceb0e90836ff0b8c31445e2ea605051656af8468858ec4837d1004195"), looks := false }, kinds := [], alts := [], goes := true, laidByText := true, laidKinds := [.data, .data, .data], laidTests := true, laidLooks := .later }
def FnLatticeMoveCardSaid : Prop := Claim7.holds Tryz.pinned (.plain (OpenSpec.ofChange fnLatticeMoveSpec)) fnLatticeMoveCard

/-- THE SECOND FORM's CARD OF 'laws.FnLatticeMove'. -/
def fnLatticeMoveUptoCard : Claim7 := { stood := { row := fnLatticeMoveUptoRow, standIns := [], harness := (true, "335537fceb0e90836ff0b8c31445e2ea605051656af8468858ec4837d1004195"), looks := false }, kinds := [], alts := [], goes := true, laidByText := true, laidKinds := [.data, .data, .data], laidTests := true, laidLooks := .later }
def FnLatticeMoveUptoCardSaid : Prop := Claim7.holds Tryz.pinned (.plain (OpenSpec.upto fnLatticeMoveSpec)) fnLatticeMoveUptoCard
end Rows
end Go.Proofs.YtiodikflmijhkaaGreatDoor
