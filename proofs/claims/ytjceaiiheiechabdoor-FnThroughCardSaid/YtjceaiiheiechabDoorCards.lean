/-
  DERIVED. GIVEN WITH THE SEED: THE CARDS: each row of YtjceaiiheiechabDoorRows.lean that lists a variable, with what it lists TIED to the program's text (the seventh form; the later family's looks); each row that meets fmt, with fmt's text TOLD by the authors' own Lean function (tested against real Go, not proved from fmt's source: count such statements apart). THE CARD IS WHAT COUNTS. Prove the row's statement (the work); the ties are given (YtjceaiiheiechabDoorTie.lean); close each card by the builder's one call (the guide's Derived/Test/ToyasCard.lean, 'card_holds'). Laid BY PROGRAM, IN A SANDBOX (cutbox-door.mjs). By AI agents, Wed Nov 11 2026. No macro, syntax, notation, axiom, sorry.
-/
import Derived.Test.YtjceaiiheiechabDoorRows
import GoSem.ClaimSeven
namespace Go.Proofs.YtjceaiiheiechabDoor
namespace Rows

/-- THE TIED CARD OF 'laws.FnThrough'. -/
def fnThroughCard : Claim7 := { stood := { row := fnThroughRow, standIns := [], harness := (true, "674034eb60bcc661258429e170730ddce41cfdf994037b8e7226ab3b6f8bfb76"), looks := false }, kinds := [], alts := [], laidByText := true, laidKinds := [.data, .data, .data], laidTests := true, laidLooks := .later }
def FnThroughCardSaid : Prop := Claim7.holds Tryd.pinned (.plain (OpenSpec.ofChange fnThroughSpec)) fnThroughCard

/-- THE TIED CARD OF 'laws.FnExactOctadThrough'. -/
def fnExactOctadThroughCard : Claim7 := { stood := { row := fnExactOctadThroughRow, standIns := [], harness := (true, "674034eb60bcc661258429e170730ddce41cfdf994037b8e7226ab3b6f8bfb76"), looks := false }, kinds := [], alts := [], laidByText := true, laidKinds := [.data, .data, .data], laidTests := true, laidLooks := .later }
def FnExactOctadThroughCardSaid : Prop := Claim7.holds Tryd.pinned (.plain (OpenSpec.ofChange fnExactOctadThroughSpec)) fnExactOctadThroughCard

/-- THE SECOND FORM's CARD OF 'laws.FnThrough'. -/
def fnThroughUptoCard : Claim7 := { stood := { row := fnThroughUptoRow, standIns := [], harness := (true, "674034eb60bcc661258429e170730ddce41cfdf994037b8e7226ab3b6f8bfb76"), looks := false }, kinds := [], alts := [], laidByText := true, laidKinds := [.data, .data, .data], laidTests := true, laidLooks := .later }
def FnThroughUptoCardSaid : Prop := Claim7.holds Tryd.pinned (.plain (OpenSpec.upto fnThroughSpec)) fnThroughUptoCard

/-- THE SECOND FORM's CARD OF 'laws.FnExactOctadThrough'. -/
def fnExactOctadThroughUptoCard : Claim7 := { stood := { row := fnExactOctadThroughUptoRow, standIns := [], harness := (true, "674034eb60bcc661258429e170730ddce41cfdf994037b8e7226ab3b6f8bfb76"), looks := false }, kinds := [], alts := [], laidByText := true, laidKinds := [.data, .data, .data], laidTests := true, laidLooks := .later }
def FnExactOctadThroughUptoCardSaid : Prop := Claim7.holds Tryd.pinned (.plain (OpenSpec.upto fnExactOctadThroughSpec)) fnExactOctadThroughUptoCard
end Rows
end Go.Proofs.YtjceaiiheiechabDoor
