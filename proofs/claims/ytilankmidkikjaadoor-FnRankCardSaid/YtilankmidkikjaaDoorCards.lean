/-
  DERIVED. GIVEN WITH THE SEED: THE CARDS: each row of YtilankmidkikjaaDoorRows.lean that lists a variable, with what it lists TIED to the program's text (the seventh form; the later family's looks); each row that meets fmt, with fmt's text TOLD by the authors' own Lean function (tested against real Go, not proved from fmt's source: count such statements apart). THE CARD IS WHAT COUNTS. Prove the row's statement (the work); the ties are given (YtilankmidkikjaaDoorTie.lean); close each card by the builder's one call (the guide's Derived/Test/ToyasCard.lean, 'card_holds'). Laid BY PROGRAM, IN A SANDBOX (cutbox-door.mjs). By AI agents, Wed Nov 11 2026. No macro, syntax, notation, axiom, sorry.
-/
import Derived.Test.YtilankmidkikjaaDoorRows
import GoSem.ClaimSeven
namespace Go.Proofs.YtilankmidkikjaaDoor
namespace Rows

/-- THE TIED CARD OF 'laws.FnWeight'. -/
def fnWeightCard : Claim7 := { stood := { row := fnWeightRow, standIns := [], harness := (true, "1b598d2279ea9b8873a985253591af53e8f3663cda2f20d4806ff432d1d01d0e"), looks := false }, kinds := [], alts := [], laidByText := true, laidKinds := [.data], laidTests := true, laidLooks := .later }
def FnWeightCardSaid : Prop := Claim7.holds Tryd.pinned (.plain (OpenSpec.ofChange fnWeightSpec)) fnWeightCard

/-- THE TIED CARD OF 'laws.FnPlaces'. -/
def fnPlacesCard : Claim7 := { stood := { row := fnPlacesRow, standIns := [], harness := (true, "1b598d2279ea9b8873a985253591af53e8f3663cda2f20d4806ff432d1d01d0e"), looks := false }, kinds := [], alts := [], laidByText := true, laidKinds := [.data], laidTests := true, laidLooks := .later }
def FnPlacesCardSaid : Prop := Claim7.holds Tryd.pinned (.plain (OpenSpec.ofChange fnPlacesSpec)) fnPlacesCard

/-- THE TIED CARD OF 'laws.FnRank'. -/
def fnRankCard : Claim7 := { stood := { row := fnRankRow, standIns := [], harness := (true, "1b598d2279ea9b8873a985253591af53e8f3663cda2f20d4806ff432d1d01d0e"), looks := false }, kinds := [], alts := [], laidByText := true, laidKinds := [.data], laidTests := true, laidLooks := .later }
def FnRankCardSaid : Prop := Claim7.holds Tryd.pinned (.plain (OpenSpec.ofChange fnRankSpec)) fnRankCard

/-- THE TIED CARD OF 'laws.FnExactWordPlaces'. -/
def fnExactWordPlacesCard : Claim7 := { stood := { row := fnExactWordPlacesRow, standIns := [], harness := (true, "1b598d2279ea9b8873a985253591af53e8f3663cda2f20d4806ff432d1d01d0e"), looks := false }, kinds := [], alts := [], laidByText := true, laidKinds := [.data], laidTests := true, laidLooks := .later }
def FnExactWordPlacesCardSaid : Prop := Claim7.holds Tryd.pinned (.plain (OpenSpec.ofChange fnExactWordPlacesSpec)) fnExactWordPlacesCard

/-- THE TIED CARD OF 'laws.FnExactWordRank'. -/
def fnExactWordRankCard : Claim7 := { stood := { row := fnExactWordRankRow, standIns := [], harness := (true, "1b598d2279ea9b8873a985253591af53e8f3663cda2f20d4806ff432d1d01d0e"), looks := false }, kinds := [], alts := [], laidByText := true, laidKinds := [.data], laidTests := true, laidLooks := .later }
def FnExactWordRankCardSaid : Prop := Claim7.holds Tryd.pinned (.plain (OpenSpec.ofChange fnExactWordRankSpec)) fnExactWordRankCard

/-- THE SECOND FORM's CARD OF 'laws.FnWeight'. -/
def fnWeightUptoCard : Claim7 := { stood := { row := fnWeightUptoRow, standIns := [], harness := (true, "1b598d2279ea9b8873a985253591af53e8f3663cda2f20d4806ff432d1d01d0e"), looks := false }, kinds := [], alts := [], laidByText := true, laidKinds := [.data], laidTests := true, laidLooks := .later }
def FnWeightUptoCardSaid : Prop := Claim7.holds Tryd.pinned (.plain (OpenSpec.upto fnWeightSpec)) fnWeightUptoCard

/-- THE SECOND FORM's CARD OF 'laws.FnPlaces'. -/
def fnPlacesUptoCard : Claim7 := { stood := { row := fnPlacesUptoRow, standIns := [], harness := (true, "1b598d2279ea9b8873a985253591af53e8f3663cda2f20d4806ff432d1d01d0e"), looks := false }, kinds := [], alts := [], laidByText := true, laidKinds := [.data], laidTests := true, laidLooks := .later }
def FnPlacesUptoCardSaid : Prop := Claim7.holds Tryd.pinned (.plain (OpenSpec.upto fnPlacesSpec)) fnPlacesUptoCard

/-- THE SECOND FORM's CARD OF 'laws.FnRank'. -/
def fnRankUptoCard : Claim7 := { stood := { row := fnRankUptoRow, standIns := [], harness := (true, "1b598d2279ea9b8873a985253591af53e8f3663cda2f20d4806ff432d1d01d0e"), looks := false }, kinds := [], alts := [], laidByText := true, laidKinds := [.data], laidTests := true, laidLooks := .later }
def FnRankUptoCardSaid : Prop := Claim7.holds Tryd.pinned (.plain (OpenSpec.upto fnRankSpec)) fnRankUptoCard

/-- THE SECOND FORM's CARD OF 'laws.FnExactWordPlaces'. -/
def fnExactWordPlacesUptoCard : Claim7 := { stood := { row := fnExactWordPlacesUptoRow, standIns := [], harness := (true, "1b598d2279ea9b8873a985253591af53e8f3663cda2f20d4806ff432d1d01d0e"), looks := false }, kinds := [], alts := [], laidByText := true, laidKinds := [.data], laidTests := true, laidLooks := .later }
def FnExactWordPlacesUptoCardSaid : Prop := Claim7.holds Tryd.pinned (.plain (OpenSpec.upto fnExactWordPlacesSpec)) fnExactWordPlacesUptoCard

/-- THE SECOND FORM's CARD OF 'laws.FnExactWordRank'. -/
def fnExactWordRankUptoCard : Claim7 := { stood := { row := fnExactWordRankUptoRow, standIns := [], harness := (true, "1b598d2279ea9b8873a985253591af53e8f3663cda2f20d4806ff432d1d01d0e"), looks := false }, kinds := [], alts := [], laidByText := true, laidKinds := [.data], laidTests := true, laidLooks := .later }
def FnExactWordRankUptoCardSaid : Prop := Claim7.holds Tryd.pinned (.plain (OpenSpec.upto fnExactWordRankSpec)) fnExactWordRankUptoCard
end Rows
end Go.Proofs.YtilankmidkikjaaDoor
