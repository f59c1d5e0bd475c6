/-
  DERIVED. GIVEN WITH THE SEED: THE CARDS: each row of YtphdemabkhmpoaaDoorRows.lean that lists a variable, with what it lists TIED to the program's text (the seventh form; the later family's looks); each row that meets fmt, with fmt's text TOLD by the authors' own Lean function (tested against real Go, not proved from fmt's source: count such statements apart). THE CARD IS WHAT COUNTS. Prove the row's statement (the work); the ties are given (YtphdemabkhmpoaaDoorTie.lean); close each card by the builder's one call (the guide's Derived/Test/ToyasCard.lean, 'card_holds'). Laid BY PROGRAM, IN A SANDBOX (cutbox-door.mjs). By AI agents, Wed Nov 11 2026. No macro, syntax, notation, axiom, sorry.
-/
import Derived.Test.YtphdemabkhmpoaaDoorRows
import GoSem.ClaimSeven
namespace Go.Proofs.YtphdemabkhmpoaaDoor
namespace Rows

/-- THE TIED CARD OF 'laws.FnScores'. -/
def fnScoresCard : Claim7 := { stood := { row := fnScoresRow, standIns := [], harness := (true, "34b2646a71845b4f087c97db55335d4900759955d63266c4bbbc686c5d0da4b5"), looks := false }, kinds := [], alts := [], laidByText := true, laidKinds := [.data], laidTests := true, laidLooks := .later }
def FnScoresCardSaid : Prop := Claim7.holds Tryd.pinned (.plain (OpenSpec.ofChange fnScoresSpec)) fnScoresCard

/-- THE TIED CARD OF 'laws.FnCodeIn'. -/
def fnCodeInCard : Claim7 := { stood := { row := fnCodeInRow, standIns := [], harness := (true, "34b2646a71845b4f087c97db55335d4900759955d63266c4bbbc686c5d0da4b5"), looks := false }, kinds := [], alts := [], laidByText := true, laidKinds := [.data, .data, .data], laidTests := true, laidLooks := .later }
def FnCodeInCardSaid : Prop := Claim7.holds Tryd.pinned (.plain (OpenSpec.ofChange fnCodeInSpec)) fnCodeInCard

/-- THE TIED CARD OF 'laws.FnCodeOf'. -/
def fnCodeOfCard : Claim7 := { stood := { row := fnCodeOfRow, standIns := [], harness := (true, "34b2646a71845b4f087c97db55335d4900759955d63266c4bbbc686c5d0da4b5"), looks := false }, kinds := [], alts := [], laidByText := true, laidKinds := [.data, .data, .data], laidTests := true, laidLooks := .later }
def FnCodeOfCardSaid : Prop := Claim7.holds Tryd.pinned (.plain (OpenSpec.ofChange fnCodeOfSpec)) fnCodeOfCard

/-- THE TIED CARD OF 'laws.FnMessage'. -/
def fnMessageCard : Claim7 := { stood := { row := fnMessageRow, standIns := [], harness := (true, "34b2646a71845b4f087c97db55335d4900759955d63266c4bbbc686c5d0da4b5"), looks := false }, kinds := [], alts := [], laidByText := true, laidKinds := [.data, .data, .data], laidTests := true, laidLooks := .later }
def FnMessageCardSaid : Prop := Claim7.holds Tryd.pinned (.plain (OpenSpec.ofChange fnMessageSpec)) fnMessageCard

/-- THE TIED CARD OF 'laws.FnExactCodeScores'. -/
def fnExactCodeScoresCard : Claim7 := { stood := { row := fnExactCodeScoresRow, standIns := [], harness := (true, "34b2646a71845b4f087c97db55335d4900759955d63266c4bbbc686c5d0da4b5"), looks := false }, kinds := [], alts := [], laidByText := true, laidKinds := [.data], laidTests := true, laidLooks := .later }
def FnExactCodeScoresCardSaid : Prop := Claim7.holds Tryd.pinned (.plain (OpenSpec.ofChange fnExactCodeScoresSpec)) fnExactCodeScoresCard

/-- THE TIED CARD OF 'laws.FnExactCodeIn'. -/
def fnExactCodeInCard : Claim7 := { stood := { row := fnExactCodeInRow, standIns := [], harness := (true, "34b2646a71845b4f087c97db55335d4900759955d63266c4bbbc686c5d0da4b5"), looks := false }, kinds := [], alts := [], laidByText := true, laidKinds := [.data, .data, .data], laidTests := true, laidLooks := .later }
def FnExactCodeInCardSaid : Prop := Claim7.holds Tryd.pinned (.plain (OpenSpec.ofChange fnExactCodeInSpec)) fnExactCodeInCard

/-- THE TIED CARD OF 'laws.FnExactCodeOf'. -/
def fnExactCodeOfCard : Claim7 := { stood := { row := fnExactCodeOfRow, standIns := [], harness := (true, "34b2646a71845b4f087c97db55335d4900759955d63266c4bbbc686c5d0da4b5"), looks := false }, kinds := [], alts := [], laidByText := true, laidKinds := [.data, .data], laidTests := true, laidLooks := .later }
def FnExactCodeOfCardSaid : Prop := Claim7.holds Tryd.pinned (.plain (OpenSpec.ofChange fnExactCodeOfSpec)) fnExactCodeOfCard

/-- THE TIED CARD OF 'laws.FnExactCodeMessage'. -/
def fnExactCodeMessageCard : Claim7 := { stood := { row := fnExactCodeMessageRow, standIns := [], harness := (true, "34b2646a71845b4f087c97db55335d4900759955d63266c4bbbc686c5d0da4b5"), looks := false }, kinds := [], alts := [], laidByText := true, laidKinds := [.data, .data, .data], laidTests := true, laidLooks := .later }
def FnExactCodeMessageCardSaid : Prop := Claim7.holds Tryd.pinned (.plain (OpenSpec.ofChange fnExactCodeMessageSpec)) fnExactCodeMessageCard

/-- THE SECOND FORM's CARD OF 'laws.FnScores'. -/
def fnScoresUptoCard : Claim7 := { stood := { row := fnScoresUptoRow, standIns := [], harness := (true, "34b2646a71845b4f087c97db55335d4900759955d63266c4bbbc686c5d0da4b5"), looks := false }, kinds := [], alts := [], laidByText := true, laidKinds := [.data], laidTests := true, laidLooks := .later }
def FnScoresUptoCardSaid : Prop := Claim7.holds Tryd.pinned (.plain (OpenSpec.upto fnScoresSpec)) fnScoresUptoCard

/-- THE SECOND FORM's CARD OF 'laws.FnCodeIn'. -/
def fnCodeInUptoCard : Claim7 := { stood := { row := fnCodeInUptoRow, standIns := [], harness := (true, "34b2646a71845b4f087c97db55335d4900759955d63266c4bbbc686c5d0da4b5"), looks := false }, kinds := [], alts := [], laidByText := true, laidKinds := [.data, .data, .data], laidTests := true, laidLooks := .later }
def FnCodeInUptoCardSaid : Prop := Claim7.holds Tryd.pinned (.plain (OpenSpec.upto fnCodeInSpec)) fnCodeInUptoCard

/-- THE SECOND FORM's CARD OF 'laws.FnCodeOf'. -/
def fnCodeOfUptoCard : Claim7 := { stood := { row := fnCodeOfUptoRow, standIns := [], harness := (true, "34b2646a71845b4f087c97db55335d4900759955d63266c4bbbc686c5d0da4b5"), looks := false }, kinds := [], alts := [], laidByText := true, laidKinds := [.data, .data, .data], laidTests := true, laidLooks := .later }
def FnCodeOfUptoCardSaid : Prop := Claim7.holds Tryd.pinned (.plain (OpenSpec.upto fnCodeOfSpec)) fnCodeOfUptoCard

/-- THE SECOND FORM's CARD OF 'laws.FnMessage'. -/
def fnMessageUptoCard : Claim7 := { stood := { row := fnMessageUptoRow, standIns := [], harness := (true, "34b2646a71845b4f087c97db55335d4900759955d63266c4bbbc686c5d0da4b5"), looks := false }, kinds := [], alts := [], laidByText := true, laidKinds := [.data, .data, .data], laidTests := true, laidLooks := .later }
def FnMessageUptoCardSaid : Prop := Claim7.holds Tryd.pinned (.plain (OpenSpec.upto fnMessageSpec)) fnMessageUptoCard

/-- THE SECOND FORM's CARD OF 'laws.FnExactCodeScores'. -/
def fnExactCodeScoresUptoCard : Claim7 := { stood := { row := fnExactCodeScoresUptoRow, standIns := [], harness := (true, "34b2646a71845b4f087c97db55335d4900759955d63266c4bbbc686c5d0da4b5"), looks := false }, kinds := [], alts := [], laidByText := true, laidKinds := [.data], laidTests := true, laidLooks := .later }
def FnExactCodeScoresUptoCardSaid : Prop := Claim7.holds Tryd.pinned (.plain (OpenSpec.upto fnExactCodeScoresSpec)) fnExactCodeScoresUptoCard

/-- THE SECOND FORM's CARD OF 'laws.FnExactCodeIn'. -/
def fnExactCodeInUptoCard : Claim7 := { stood := { row := fnExactCodeInUptoRow, standIns := [], harness := (true, "34b2646a71845b4f087c97db55335d4900759955d63266c4bbbc686c5d0da4b5"), looks := false }, kinds := [], alts := [], laidByText := true, laidKinds := [.data, .data, .data], laidTests := true, laidLooks := .later }
def FnExactCodeInUptoCardSaid : Prop := Claim7.holds Tryd.pinned (.plain (OpenSpec.upto fnExactCodeInSpec)) fnExactCodeInUptoCard

/-- THE SECOND FORM's CARD OF 'laws.FnExactCodeOf'. -/
def fnExactCodeOfUptoCard : Claim7 := { stood := { row := fnExactCodeOfUptoRow, standIns := [], harness := (true, "34b2646a71845b4f087c97db55335d4900759955d63266c4bbbc686c5d0da4b5"), looks := false }, kinds := [], alts := [], laidByText := true, laidKinds := [.data, .data], laidTests := true, laidLooks := .later }
def FnExactCodeOfUptoCardSaid : Prop := Claim7.holds Tryd.pinned (.plain (OpenSpec.upto fnExactCodeOfSpec)) fnExactCodeOfUptoCard

/-- THE SECOND FORM's CARD OF 'laws.FnExactCodeMessage'. -/
def fnExactCodeMessageUptoCard : Claim7 := { stood := { row := fnExactCodeMessageUptoRow, standIns := [], harness := (true, "34b2646a71845b4f087c97db55335d4900759955d63266c4bbbc686c5d0da4b5"), looks := false }, kinds := [], alts := [], laidByText := true, laidKinds := [.data, .data, .data], laidTests := true, laidLooks := .later }
def FnExactCodeMessageUptoCardSaid : Prop := Claim7.holds Tryd.pinned (.plain (OpenSpec.upto fnExactCodeMessageSpec)) fnExactCodeMessageUptoCard
end Rows
end Go.Proofs.YtphdemabkhmpoaaDoor
