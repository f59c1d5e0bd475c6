/-
  DERIVED. GIVEN WITH THE SEED: THE CARDS: each row of YtojjbdpoecmaeaaDoorRows.lean that lists a variable, with what it lists TIED to the program's text (the seventh form; the later family's looks); each row that meets fmt, with fmt's text TOLD by the authors' own Lean function (tested against real Go, not proved from fmt's source: count such statements apart). THE CARD IS WHAT COUNTS. Prove the row's statement (the work); the ties are given (YtojjbdpoecmaeaaDoorTie.lean); close each card by the builder's one call (the guide's Derived/Test/ToyasCard.lean, 'card_holds'). Laid BY PROGRAM, IN A SANDBOX (cutbox-door.mjs). By AI agents, Wed Nov 11 2026. No macro, syntax, notation, axiom, sorry.
-/
import Derived.Test.YtojjbdpoecmaeaaDoorRows
import GoSem.ClaimSeven
namespace Go.Proofs.YtojjbdpoecmaeaaDoor
namespace Rows

/-- THE TIED CARD OF 'laws.FnDigitTimes'. -/
def fnDigitTimesCard : Claim7 := { stood := { row := fnDigitTimesRow, standIns := [], harness := (true, "9f2420f01c98fba38d599fab3e3f017b76904d4cf315d4872dd5da839be2532f"), looks := false }, kinds := [], alts := [], laidByText := true, laidKinds := [.data], laidTests := true, laidLooks := .later }
def FnDigitTimesCardSaid : Prop := Claim7.holds Tryd.pinned (.plain (OpenSpec.ofChange fnDigitTimesSpec)) fnDigitTimesCard

/-- THE TIED CARD OF 'laws.FnHexOf'. -/
def fnHexOfCard : Claim7 := { stood := { row := fnHexOfRow, standIns := [], harness := (true, "9f2420f01c98fba38d599fab3e3f017b76904d4cf315d4872dd5da839be2532f"), looks := false }, kinds := [], alts := [], laidByText := true, laidKinds := [.data], laidTests := true, laidLooks := .later }
def FnHexOfCardSaid : Prop := Claim7.holds Tryd.pinned (.plain (OpenSpec.ofChange fnHexOfSpec)) fnHexOfCard

/-- THE TIED CARD OF 'laws.FnHexIn'. -/
def fnHexInCard : Claim7 := { stood := { row := fnHexInRow, standIns := [], harness := (true, "9f2420f01c98fba38d599fab3e3f017b76904d4cf315d4872dd5da839be2532f"), looks := false }, kinds := [], alts := [], laidByText := true, laidKinds := [.data], laidTests := true, laidLooks := .later }
def FnHexInCardSaid : Prop := Claim7.holds Tryd.pinned (.plain (OpenSpec.ofChange fnHexInSpec)) fnHexInCard

/-- THE TIED CARD OF 'laws.FnHexAdd'. -/
def fnHexAddCard : Claim7 := { stood := { row := fnHexAddRow, standIns := [], harness := (true, "9f2420f01c98fba38d599fab3e3f017b76904d4cf315d4872dd5da839be2532f"), looks := false }, kinds := [], alts := [], laidByText := true, laidKinds := [.data], laidTests := true, laidLooks := .later }
def FnHexAddCardSaid : Prop := Claim7.holds Tryd.pinned (.plain (OpenSpec.ofChange fnHexAddSpec)) fnHexAddCard

/-- THE TIED CARD OF 'laws.FnHexTimes'. -/
def fnHexTimesCard : Claim7 := { stood := { row := fnHexTimesRow, standIns := [], harness := (true, "9f2420f01c98fba38d599fab3e3f017b76904d4cf315d4872dd5da839be2532f"), looks := false }, kinds := [], alts := [], laidByText := true, laidKinds := [.data], laidTests := true, laidLooks := .later }
def FnHexTimesCardSaid : Prop := Claim7.holds Tryd.pinned (.plain (OpenSpec.ofChange fnHexTimesSpec)) fnHexTimesCard

/-- THE TIED CARD OF 'laws.FnHexInner'. -/
def fnHexInnerCard : Claim7 := { stood := { row := fnHexInnerRow, standIns := [], harness := (true, "9f2420f01c98fba38d599fab3e3f017b76904d4cf315d4872dd5da839be2532f"), looks := false }, kinds := [], alts := [], laidByText := true, laidKinds := [.data], laidTests := true, laidLooks := .later }
def FnHexInnerCardSaid : Prop := Claim7.holds Tryd.pinned (.plain (OpenSpec.ofChange fnHexInnerSpec)) fnHexInnerCard

/-- THE TIED CARD OF 'laws.FnHexNear'. -/
def fnHexNearCard : Claim7 := { stood := { row := fnHexNearRow, standIns := [], harness := (true, "9f2420f01c98fba38d599fab3e3f017b76904d4cf315d4872dd5da839be2532f"), looks := false }, kinds := [], alts := [], laidByText := true, laidKinds := [.data], laidTests := true, laidLooks := .later }
def FnHexNearCardSaid : Prop := Claim7.holds Tryd.pinned (.plain (OpenSpec.ofChange fnHexNearSpec)) fnHexNearCard

/-- THE TIED CARD OF 'laws.FnExactDigitTimes'. -/
def fnExactDigitTimesCard : Claim7 := { stood := { row := fnExactDigitTimesRow, standIns := [], harness := (true, "9f2420f01c98fba38d599fab3e3f017b76904d4cf315d4872dd5da839be2532f"), looks := false }, kinds := [], alts := [], laidByText := true, laidKinds := [.data], laidTests := true, laidLooks := .later }
def FnExactDigitTimesCardSaid : Prop := Claim7.holds Tryd.pinned (.plain (OpenSpec.ofChange fnExactDigitTimesSpec)) fnExactDigitTimesCard

/-- THE TIED CARD OF 'laws.FnExactHexOf'. -/
def fnExactHexOfCard : Claim7 := { stood := { row := fnExactHexOfRow, standIns := [], harness := (true, "9f2420f01c98fba38d599fab3e3f017b76904d4cf315d4872dd5da839be2532f"), looks := false }, kinds := [], alts := [], laidByText := true, laidKinds := [.data], laidTests := true, laidLooks := .later }
def FnExactHexOfCardSaid : Prop := Claim7.holds Tryd.pinned (.plain (OpenSpec.ofChange fnExactHexOfSpec)) fnExactHexOfCard

/-- THE TIED CARD OF 'laws.FnExactHexIn'. -/
def fnExactHexInCard : Claim7 := { stood := { row := fnExactHexInRow, standIns := [], harness := (true, "9f2420f01c98fba38d599fab3e3f017b76904d4cf315d4872dd5da839be2532f"), looks := false }, kinds := [], alts := [], laidByText := true, laidKinds := [.data], laidTests := true, laidLooks := .later }
def FnExactHexInCardSaid : Prop := Claim7.holds Tryd.pinned (.plain (OpenSpec.ofChange fnExactHexInSpec)) fnExactHexInCard

/-- THE TIED CARD OF 'laws.FnExactHexTimes'. -/
def fnExactHexTimesCard : Claim7 := { stood := { row := fnExactHexTimesRow, standIns := [], harness := (true, "9f2420f01c98fba38d599fab3e3f017b76904d4cf315d4872dd5da839be2532f"), looks := false }, kinds := [], alts := [], laidByText := true, laidKinds := [.data], laidTests := true, laidLooks := .later }
def FnExactHexTimesCardSaid : Prop := Claim7.holds Tryd.pinned (.plain (OpenSpec.ofChange fnExactHexTimesSpec)) fnExactHexTimesCard

/-- THE TIED CARD OF 'laws.FnExactHexInner'. -/
def fnExactHexInnerCard : Claim7 := { stood := { row := fnExactHexInnerRow, standIns := [], harness := (true, "9f2420f01c98fba38d599fab3e3f017b76904d4cf315d4872dd5da839be2532f"), looks := false }, kinds := [], alts := [], laidByText := true, laidKinds := [.data], laidTests := true, laidLooks := .later }
def FnExactHexInnerCardSaid : Prop := Claim7.holds Tryd.pinned (.plain (OpenSpec.ofChange fnExactHexInnerSpec)) fnExactHexInnerCard

/-- THE TIED CARD OF 'laws.FnExactHexNear'. -/
def fnExactHexNearCard : Claim7 := { stood := { row := fnExactHexNearRow, standIns := [], harness := (true, "9f2420f01c98fba38d599fab3e3f017b76904d4cf315d4872dd5da839be2532f"), looks := false }, kinds := [], alts := [], laidByText := true, laidKinds := [.data], laidTests := true, laidLooks := .later }
def FnExactHexNearCardSaid : Prop := Claim7.holds Tryd.pinned (.plain (OpenSpec.ofChange fnExactHexNearSpec)) fnExactHexNearCard

/-- THE SECOND FORM's CARD OF 'laws.FnDigitTimes'. -/
def fnDigitTimesUptoCard : Claim7 := { stood := { row := fnDigitTimesUptoRow, standIns := [], harness := (true, "9f2420f01c98fba38d599fab3e3f017b76904d4cf315d4872dd5da839be2532f"), looks := false }, kinds := [], alts := [], laidByText := true, laidKinds := [.data], laidTests := true, laidLooks := .later }
def FnDigitTimesUptoCardSaid : Prop := Claim7.holds Tryd.pinned (.plain (OpenSpec.upto fnDigitTimesSpec)) fnDigitTimesUptoCard

/-- THE SECOND FORM's CARD OF 'laws.FnHexOf'. -/
def fnHexOfUptoCard : Claim7 := { stood := { row := fnHexOfUptoRow, standIns := [], harness := (true, "9f2420f01c98fba38d599fab3e3f017b76904d4cf315d4872dd5da839be2532f"), looks := false }, kinds := [], alts := [], laidByText := true, laidKinds := [.data], laidTests := true, laidLooks := .later }
def FnHexOfUptoCardSaid : Prop := Claim7.holds Tryd.pinned (.plain (OpenSpec.upto fnHexOfSpec)) fnHexOfUptoCard

/-- THE SECOND FORM's CARD OF 'laws.FnHexIn'. -/
def fnHexInUptoCard : Claim7 := { stood := { row := fnHexInUptoRow, standIns := [], harness := (true, "9f2420f01c98fba38d599fab3e3f017b76904d4cf315d4872dd5da839be2532f"), looks := false }, kinds := [], alts := [], laidByText := true, laidKinds := [.data], laidTests := true, laidLooks := .later }
def FnHexInUptoCardSaid : Prop := Claim7.holds Tryd.pinned (.plain (OpenSpec.upto fnHexInSpec)) fnHexInUptoCard

/-- THE SECOND FORM's CARD OF 'laws.FnHexAdd'. -/
def fnHexAddUptoCard : Claim7 := { stood := { row := fnHexAddUptoRow, standIns := [], harness := (true, "9f2420f01c98fba38d599fab3e3f017b76904d4cf315d4872dd5da839be2532f"), looks := false }, kinds := [], alts := [], laidByText := true, laidKinds := [.data], laidTests := true, laidLooks := .later }
def FnHexAddUptoCardSaid : Prop := Claim7.holds Tryd.pinned (.plain (OpenSpec.upto fnHexAddSpec)) fnHexAddUptoCard

/-- THE SECOND FORM's CARD OF 'laws.FnHexTimes'. -/
def fnHexTimesUptoCard : Claim7 := { stood := { row := fnHexTimesUptoRow, standIns := [], harness := (true, "9f2420f01c98fba38d599fab3e3f017b76904d4cf315d4872dd5da839be2532f"), looks := false }, kinds := [], alts := [], laidByText := true, laidKinds := [.data], laidTests := true, laidLooks := .later }
def FnHexTimesUptoCardSaid : Prop := Claim7.holds Tryd.pinned (.plain (OpenSpec.upto fnHexTimesSpec)) fnHexTimesUptoCard

/-- THE SECOND FORM's CARD OF 'laws.FnHexInner'. -/
def fnHexInnerUptoCard : Claim7 := { stood := { row := fnHexInnerUptoRow, standIns := [], harness := (true, "9f2420f01c98fba38d599fab3e3f017b76904d4cf315d4872dd5da839be2532f"), looks := false }, kinds := [], alts := [], laidByText := true, laidKinds := [.data], laidTests := true, laidLooks := .later }
def FnHexInnerUptoCardSaid : Prop := Claim7.holds Tryd.pinned (.plain (OpenSpec.upto fnHexInnerSpec)) fnHexInnerUptoCard

/-- THE SECOND FORM's CARD OF 'laws.FnHexNear'. -/
def fnHexNearUptoCard : Claim7 := { stood := { row := fnHexNearUptoRow, standIns := [], harness := (true, "9f2420f01c98fba38d599fab3e3f017b76904d4cf315d4872dd5da839be2532f"), looks := false }, kinds := [], alts := [], laidByText := true, laidKinds := [.data], laidTests := true, laidLooks := .later }
def FnHexNearUptoCardSaid : Prop := Claim7.holds Tryd.pinned (.plain (OpenSpec.upto fnHexNearSpec)) fnHexNearUptoCard

/-- THE SECOND FORM's CARD OF 'laws.FnExactDigitTimes'. -/
def fnExactDigitTimesUptoCard : Claim7 := { stood := { row := fnExactDigitTimesUptoRow, standIns := [], harness := (true, "9f2420f01c98fba38d599fab3e3f017b76904d4cf315d4872dd5da839be2532f"), looks := false }, kinds := [], alts := [], laidByText := true, laidKinds := [.data], laidTests := true, laidLooks := .later }
def FnExactDigitTimesUptoCardSaid : Prop := Claim7.holds Tryd.pinned (.plain (OpenSpec.upto fnExactDigitTimesSpec)) fnExactDigitTimesUptoCard

/-- THE SECOND FORM's CARD OF 'laws.FnExactHexOf'. -/
def fnExactHexOfUptoCard : Claim7 := { stood := { row := fnExactHexOfUptoRow, standIns := [], harness := (true, "9f2420f01c98fba38d599fab3e3f017b76904d4cf315d4872dd5da839be2532f"), looks := false }, kinds := [], alts := [], laidByText := true, laidKinds := [.data], laidTests := true, laidLooks := .later }
def FnExactHexOfUptoCardSaid : Prop := Claim7.holds Tryd.pinned (.plain (OpenSpec.upto fnExactHexOfSpec)) fnExactHexOfUptoCard

/-- THE SECOND FORM's CARD OF 'laws.FnExactHexIn'. -/
def fnExactHexInUptoCard : Claim7 := { stood := { row := fnExactHexInUptoRow, standIns := [], harness := (true, "9f2420f01c98fba38d599fab3e3f017b76904d4cf315d4872dd5da839be2532f"), looks := false }, kinds := [], alts := [], laidByText := true, laidKinds := [.data], laidTests := true, laidLooks := .later }
def FnExactHexInUptoCardSaid : Prop := Claim7.holds Tryd.pinned (.plain (OpenSpec.upto fnExactHexInSpec)) fnExactHexInUptoCard

/-- THE SECOND FORM's CARD OF 'laws.FnExactHexTimes'. -/
def fnExactHexTimesUptoCard : Claim7 := { stood := { row := fnExactHexTimesUptoRow, standIns := [], harness := (true, "9f2420f01c98fba38d599fab3e3f017b76904d4cf315d4872dd5da839be2532f"), looks := false }, kinds := [], alts := [], laidByText := true, laidKinds := [.data], laidTests := true, laidLooks := .later }
def FnExactHexTimesUptoCardSaid : Prop := Claim7.holds Tryd.pinned (.plain (OpenSpec.upto fnExactHexTimesSpec)) fnExactHexTimesUptoCard

/-- THE SECOND FORM's CARD OF 'laws.FnExactHexInner'. -/
def fnExactHexInnerUptoCard : Claim7 := { stood := { row := fnExactHexInnerUptoRow, standIns := [], harness := (true, "9f2420f01c98fba38d599fab3e3f017b76904d4cf315d4872dd5da839be2532f"), looks := false }, kinds := [], alts := [], laidByText := true, laidKinds := [.data], laidTests := true, laidLooks := .later }
def FnExactHexInnerUptoCardSaid : Prop := Claim7.holds Tryd.pinned (.plain (OpenSpec.upto fnExactHexInnerSpec)) fnExactHexInnerUptoCard

/-- THE SECOND FORM's CARD OF 'laws.FnExactHexNear'. -/
def fnExactHexNearUptoCard : Claim7 := { stood := { row := fnExactHexNearUptoRow, standIns := [], harness := (true, "9f2420f01c98fba38d599fab3e3f017b76904d4cf315d4872dd5da839be2532f"), looks := false }, kinds := [], alts := [], laidByText := true, laidKinds := [.data], laidTests := true, laidLooks := .later }
def FnExactHexNearUptoCardSaid : Prop := Claim7.holds Tryd.pinned (.plain (OpenSpec.upto fnExactHexNearSpec)) fnExactHexNearUptoCard
end Rows
end Go.Proofs.YtojjbdpoecmaeaaDoor
