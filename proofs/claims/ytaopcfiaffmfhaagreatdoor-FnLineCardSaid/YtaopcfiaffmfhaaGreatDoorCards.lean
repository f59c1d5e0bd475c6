/-
  DERIVED. GIVEN WITH THE SEED: THE CARDS: each row of YtaopcfiaffmfhaaGreatDoorRows.lean that lists a variable, with what it lists TIED to the program's text (the seventh form; the later family's looks); each row that meets fmt, with fmt's text TOLD by the authors' own Lean function (tested against real Go, not proved from fmt's source: count such statements apart). THE CARD IS WHAT COUNTS. Prove the row's statement (the work); the ties are given (YtaopcfiaffmfhaaGreatDoorTie.lean); close each card by the builder's one call (the guide's Derived/Test/ToyasCard.lean, 'card_holds'). Laid BY PROGRAM, IN A SANDBOX (cutbox-door.mjs). By AI agents, Wed Nov 11 2026. No macro, syntax, notation, axiom, sorry.
-/
import Derived.Test.YtaopcfiaffmfhaaGreatDoorRows
import GoSem.ClaimSeven
namespace Go.Proofs.YtaopcfiaffmfhaaGreatDoor
namespace Rows

/-- THE TIED CARD OF 'laws.FnLine'. -/
def fnLineCard : Claim7 := { stood := { row := fnLineRow, standIns := [], harness := (true, "8a912dc91ee445a814e7343275e970b9aefa844ea0bd7f98a6dde33bfb4c4ba1"), looks := true }, kinds := [], alts := [], laidByText := true, laidKinds := [.handle, .data, .data], laidTests := true, laidLooks := .later }
def FnLineCardSaid : Prop := Claim7.holds Tryz.pinned (.plain (OpenSpec.ofChange fnLineSpec)) fnLineCard

/-- THE TIED CARD OF 'laws.FnOn'. -/
def fnOnCard : Claim7 := { stood := { row := fnOnRow, standIns := [], harness := (true, "8a912dc91ee445a814e7343275e970b9aefa844ea0bd7f98a6dde33bfb4c4ba1"), looks := true }, kinds := [], alts := [], laidByText := true, laidKinds := [.handle, .data, .data], laidTests := true, laidLooks := .later }
def FnOnCardSaid : Prop := Claim7.holds Tryz.pinned (.plain (OpenSpec.ofChange fnOnSpec)) fnOnCard

/-- THE TIED CARD OF 'laws.FnOval'. -/
def fnOvalCard : Claim7 := { stood := { row := fnOvalRow, standIns := [], harness := (true, "8a912dc91ee445a814e7343275e970b9aefa844ea0bd7f98a6dde33bfb4c4ba1"), looks := true }, kinds := [], alts := [], laidByText := true, laidKinds := [.data, .handle, .data, .data], laidTests := true, laidLooks := .later }
def FnOvalCardSaid : Prop := Claim7.holds Tryz.pinned (.plain (OpenSpec.ofChange fnOvalSpec)) fnOvalCard

/-- THE TIED CARD OF 'laws.FnOvals'. -/
def fnOvalsCard : Claim7 := { stood := { row := fnOvalsRow, standIns := [], harness := (true, "8a912dc91ee445a814e7343275e970b9aefa844ea0bd7f98a6dde33bfb4c4ba1"), looks := true }, kinds := [], alts := [], laidByText := true, laidKinds := [.data, .handle, .data, .data], laidTests := true, laidLooks := .later }
def FnOvalsCardSaid : Prop := Claim7.holds Tryz.pinned (.plain (OpenSpec.ofChange fnOvalsSpec)) fnOvalsCard

/-- THE TIED CARD OF 'laws.FnFour'. -/
def fnFourCard : Claim7 := { stood := { row := fnFourRow, standIns := [], harness := (true, "8a912dc91ee445a814e7343275e970b9aefa844ea0bd7f98a6dde33bfb4c4ba1"), looks := true }, kinds := [], alts := [], laidByText := true, laidKinds := [.data, .handle, .data, .data], laidTests := true, laidLooks := .later }
def FnFourCardSaid : Prop := Claim7.holds Tryz.pinned (.plain (OpenSpec.ofChange fnFourSpec)) fnFourCard

/-- THE TIED CARD OF 'laws.FnSub'. -/
def fnSubCard : Claim7 := { stood := { row := fnSubRow, standIns := [], harness := (true, "8a912dc91ee445a814e7343275e970b9aefa844ea0bd7f98a6dde33bfb4c4ba1"), looks := true }, kinds := [], alts := [], laidByText := true, laidKinds := [.data, .handle, .data, .data], laidTests := true, laidLooks := .later }
def FnSubCardSaid : Prop := Claim7.holds Tryz.pinned (.plain (OpenSpec.ofChange fnSubSpec)) fnSubCard

/-- THE SECOND FORM's CARD OF 'laws.FnLine'. -/
def fnLineUptoCard : Claim7 := { stood := { row := fnLineUptoRow, standIns := [], harness := (true, "8a912dc91ee445a814e7343275e970b9aefa844ea0bd7f98a6dde33bfb4c4ba1"), looks := true }, kinds := [], alts := [], laidByText := true, laidKinds := [.handle, .data, .data], laidTests := true, laidLooks := .later }
def FnLineUptoCardSaid : Prop := Claim7.holds Tryz.pinned (.plain (OpenSpec.upto fnLineSpec)) fnLineUptoCard

/-- THE SECOND FORM's CARD OF 'laws.FnOn'. -/
def fnOnUptoCard : Claim7 := { stood := { row := fnOnUptoRow, standIns := [], harness := (true, "8a912dc91ee445a814e7343275e970b9aefa844ea0bd7f98a6dde33bfb4c4ba1"), looks := true }, kinds := [], alts := [], laidByText := true, laidKinds := [.handle, .data, .data], laidTests := true, laidLooks := .later }
def FnOnUptoCardSaid : Prop := Claim7.holds Tryz.pinned (.plain (OpenSpec.upto fnOnSpec)) fnOnUptoCard

/-- THE SECOND FORM's CARD OF 'laws.FnOval'. -/
def fnOvalUptoCard : Claim7 := { stood := { row := fnOvalUptoRow, standIns := [], harness := (true, "8a912dc91ee445a814e7343275e970b9aefa844ea0bd7f98a6dde33bfb4c4ba1"), looks := true }, kinds := [], alts := [], laidByText := true, laidKinds := [.data, .handle, .data, .data], laidTests := true, laidLooks := .later }
def FnOvalUptoCardSaid : Prop := Claim7.holds Tryz.pinned (.plain (OpenSpec.upto fnOvalSpec)) fnOvalUptoCard

/-- THE SECOND FORM's CARD OF 'laws.FnOvals'. -/
def fnOvalsUptoCard : Claim7 := { stood := { row := fnOvalsUptoRow, standIns := [], harness := (true, "8a912dc91ee445a814e7343275e970b9aefa844ea0bd7f98a6dde33bfb4c4ba1"), looks := true }, kinds := [], alts := [], laidByText := true, laidKinds := [.data, .handle, .data, .data], laidTests := true, laidLooks := .later }
def FnOvalsUptoCardSaid : Prop := Claim7.holds Tryz.pinned (.plain (OpenSpec.upto fnOvalsSpec)) fnOvalsUptoCard

/-- THE SECOND FORM's CARD OF 'laws.FnFour'. -/
def fnFourUptoCard : Claim7 := { stood := { row := fnFourUptoRow, standIns := [], harness := (true, "8a912dc91ee445a814e7343275e970b9aefa844ea0bd7f98a6dde33bfb4c4ba1"), looks := true }, kinds := [], alts := [], laidByText := true, laidKinds := [.data, .handle, .data, .data], laidTests := true, laidLooks := .later }
def FnFourUptoCardSaid : Prop := Claim7.holds Tryz.pinned (.plain (OpenSpec.upto fnFourSpec)) fnFourUptoCard

/-- THE SECOND FORM's CARD OF 'laws.FnSub'. -/
def fnSubUptoCard : Claim7 := { stood := { row := fnSubUptoRow, standIns := [], harness := (true, "8a912dc91ee445a814e7343275e970b9aefa844ea0bd7f98a6dde33bfb4c4ba1"), looks := true }, kinds := [], alts := [], laidByText := true, laidKinds := [.data, .handle, .data, .data], laidTests := true, laidLooks := .later }
def FnSubUptoCardSaid : Prop := Claim7.holds Tryz.pinned (.plain (OpenSpec.upto fnSubSpec)) fnSubUptoCard
end Rows
end Go.Proofs.YtaopcfiaffmfhaaGreatDoor
