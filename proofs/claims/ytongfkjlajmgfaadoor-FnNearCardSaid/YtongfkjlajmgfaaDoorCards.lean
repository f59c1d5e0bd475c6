/-
  DERIVED. GIVEN WITH THE SEED: THE CARDS: each row of YtongfkjlajmgfaaDoorRows.lean that lists a variable, with what it lists TIED to the program's text (the seventh form; the later family's looks); each row that meets fmt, with fmt's text TOLD by the authors' own Lean function (tested against real Go, not proved from fmt's source: count such statements apart). THE CARD IS WHAT COUNTS. Prove the row's statement (the work); the ties are given (YtongfkjlajmgfaaDoorTie.lean); close each card by the builder's one call (the guide's Derived/Test/ToyasCard.lean, 'card_holds'). Laid BY PROGRAM, IN A SANDBOX (cutbox-door.mjs). By AI agents, Wed Nov 11 2026. No macro, syntax, notation, axiom, sorry.
-/
import Derived.Test.YtongfkjlajmgfaaDoorRows
import GoSem.ClaimSeven
namespace Go.Proofs.YtongfkjlajmgfaaDoor
namespace Rows

/-- THE TIED CARD OF 'laws.FnFar'. -/
def fnFarCard : Claim7 := { stood := { row := fnFarRow, standIns := [], harness := (true, "b7208a8385cf290072f1969337a1f71a8a0f7cebd776bb0b6b723b35eb80a97c"), looks := false }, kinds := [], alts := [], laidByText := true, laidKinds := [.data, .data, .data], laidTests := true, laidLooks := .later }
def FnFarCardSaid : Prop := Claim7.holds Tryd.pinned (.plain (OpenSpec.ofChange fnFarSpec)) fnFarCard

/-- THE TIED CARD OF 'laws.FnNear'. -/
def fnNearCard : Claim7 := { stood := { row := fnNearRow, standIns := [], harness := (true, "b7208a8385cf290072f1969337a1f71a8a0f7cebd776bb0b6b723b35eb80a97c"), looks := false }, kinds := [], alts := [], laidByText := true, laidKinds := [.data, .data, .data], laidTests := true, laidLooks := .later }
def FnNearCardSaid : Prop := Claim7.holds Tryd.pinned (.plain (OpenSpec.ofChange fnNearSpec)) fnNearCard

/-- THE TIED CARD OF 'laws.FnMend'. -/
def fnMendCard : Claim7 := { stood := { row := fnMendRow, standIns := [], harness := (true, "b7208a8385cf290072f1969337a1f71a8a0f7cebd776bb0b6b723b35eb80a97c"), looks := false }, kinds := [], alts := [], laidByText := true, laidKinds := [.data, .data, .data], laidTests := true, laidLooks := .later }
def FnMendCardSaid : Prop := Claim7.holds Tryd.pinned (.plain (OpenSpec.ofChange fnMendSpec)) fnMendCard

/-- THE TIED CARD OF 'laws.FnMended'. -/
def fnMendedCard : Claim7 := { stood := { row := fnMendedRow, standIns := [], harness := (true, "b7208a8385cf290072f1969337a1f71a8a0f7cebd776bb0b6b723b35eb80a97c"), looks := false }, kinds := [], alts := [], laidByText := true, laidKinds := [.data, .data], laidTests := true, laidLooks := .later }
def FnMendedCardSaid : Prop := Claim7.holds Tryd.pinned (.plain (OpenSpec.ofChange fnMendedSpec)) fnMendedCard

/-- THE TIED CARD OF 'laws.FnExactCodeFar'. -/
def fnExactCodeFarCard : Claim7 := { stood := { row := fnExactCodeFarRow, standIns := [], harness := (true, "b7208a8385cf290072f1969337a1f71a8a0f7cebd776bb0b6b723b35eb80a97c"), looks := false }, kinds := [], alts := [], laidByText := true, laidKinds := [.data, .data], laidTests := true, laidLooks := .later }
def FnExactCodeFarCardSaid : Prop := Claim7.holds Tryd.pinned (.plain (OpenSpec.ofChange fnExactCodeFarSpec)) fnExactCodeFarCard

/-- THE TIED CARD OF 'laws.FnExactCodeNear'. -/
def fnExactCodeNearCard : Claim7 := { stood := { row := fnExactCodeNearRow, standIns := [], harness := (true, "b7208a8385cf290072f1969337a1f71a8a0f7cebd776bb0b6b723b35eb80a97c"), looks := false }, kinds := [], alts := [], laidByText := true, laidKinds := [.data, .data], laidTests := true, laidLooks := .later }
def FnExactCodeNearCardSaid : Prop := Claim7.holds Tryd.pinned (.plain (OpenSpec.ofChange fnExactCodeNearSpec)) fnExactCodeNearCard

/-- THE TIED CARD OF 'laws.FnExactCodeMend'. -/
def fnExactCodeMendCard : Claim7 := { stood := { row := fnExactCodeMendRow, standIns := [], harness := (true, "b7208a8385cf290072f1969337a1f71a8a0f7cebd776bb0b6b723b35eb80a97c"), looks := false }, kinds := [], alts := [], laidByText := true, laidKinds := [.data, .data], laidTests := true, laidLooks := .later }
def FnExactCodeMendCardSaid : Prop := Claim7.holds Tryd.pinned (.plain (OpenSpec.ofChange fnExactCodeMendSpec)) fnExactCodeMendCard

/-- THE TIED CARD OF 'laws.FnExactOctadIn'. -/
def fnExactOctadInCard : Claim7 := { stood := { row := fnExactOctadInRow, standIns := [], harness := (true, "b7208a8385cf290072f1969337a1f71a8a0f7cebd776bb0b6b723b35eb80a97c"), looks := false }, kinds := [], alts := [], laidByText := true, laidKinds := [.data, .data, .data], laidTests := true, laidLooks := .later }
def FnExactOctadInCardSaid : Prop := Claim7.holds Tryd.pinned (.plain (OpenSpec.ofChange fnExactOctadInSpec)) fnExactOctadInCard

/-- THE TIED CARD OF 'laws.FnExactOctadPair'. -/
def fnExactOctadPairCard : Claim7 := { stood := { row := fnExactOctadPairRow, standIns := [], harness := (true, "b7208a8385cf290072f1969337a1f71a8a0f7cebd776bb0b6b723b35eb80a97c"), looks := false }, kinds := [], alts := [], laidByText := true, laidKinds := [.data, .data, .data], laidTests := true, laidLooks := .later }
def FnExactOctadPairCardSaid : Prop := Claim7.holds Tryd.pinned (.plain (OpenSpec.ofChange fnExactOctadPairSpec)) fnExactOctadPairCard

/-- THE SECOND FORM's CARD OF 'laws.FnFar'. -/
def fnFarUptoCard : Claim7 := { stood := { row := fnFarUptoRow, standIns := [], harness := (true, "b7208a8385cf290072f1969337a1f71a8a0f7cebd776bb0b6b723b35eb80a97c"), looks := false }, kinds := [], alts := [], laidByText := true, laidKinds := [.data, .data, .data], laidTests := true, laidLooks := .later }
def FnFarUptoCardSaid : Prop := Claim7.holds Tryd.pinned (.plain (OpenSpec.upto fnFarSpec)) fnFarUptoCard

/-- THE SECOND FORM's CARD OF 'laws.FnNear'. -/
def fnNearUptoCard : Claim7 := { stood := { row := fnNearUptoRow, standIns := [], harness := (true, "b7208a8385cf290072f1969337a1f71a8a0f7cebd776bb0b6b723b35eb80a97c"), looks := false }, kinds := [], alts := [], laidByText := true, laidKinds := [.data, .data, .data], laidTests := true, laidLooks := .later }
def FnNearUptoCardSaid : Prop := Claim7.holds Tryd.pinned (.plain (OpenSpec.upto fnNearSpec)) fnNearUptoCard

/-- THE SECOND FORM's CARD OF 'laws.FnMend'. -/
def fnMendUptoCard : Claim7 := { stood := { row := fnMendUptoRow, standIns := [], harness := (true, "b7208a8385cf290072f1969337a1f71a8a0f7cebd776bb0b6b723b35eb80a97c"), looks := false }, kinds := [], alts := [], laidByText := true, laidKinds := [.data, .data, .data], laidTests := true, laidLooks := .later }
def FnMendUptoCardSaid : Prop := Claim7.holds Tryd.pinned (.plain (OpenSpec.upto fnMendSpec)) fnMendUptoCard

/-- THE SECOND FORM's CARD OF 'laws.FnMended'. -/
def fnMendedUptoCard : Claim7 := { stood := { row := fnMendedUptoRow, standIns := [], harness := (true, "b7208a8385cf290072f1969337a1f71a8a0f7cebd776bb0b6b723b35eb80a97c"), looks := false }, kinds := [], alts := [], laidByText := true, laidKinds := [.data, .data], laidTests := true, laidLooks := .later }
def FnMendedUptoCardSaid : Prop := Claim7.holds Tryd.pinned (.plain (OpenSpec.upto fnMendedSpec)) fnMendedUptoCard

/-- THE SECOND FORM's CARD OF 'laws.FnExactCodeFar'. -/
def fnExactCodeFarUptoCard : Claim7 := { stood := { row := fnExactCodeFarUptoRow, standIns := [], harness := (true, "b7208a8385cf290072f1969337a1f71a8a0f7cebd776bb0b6b723b35eb80a97c"), looks := false }, kinds := [], alts := [], laidByText := true, laidKinds := [.data, .data], laidTests := true, laidLooks := .later }
def FnExactCodeFarUptoCardSaid : Prop := Claim7.holds Tryd.pinned (.plain (OpenSpec.upto fnExactCodeFarSpec)) fnExactCodeFarUptoCard

/-- THE SECOND FORM's CARD OF 'laws.FnExactCodeNear'. -/
def fnExactCodeNearUptoCard : Claim7 := { stood := { row := fnExactCodeNearUptoRow, standIns := [], harness := (true, "b7208a8385cf290072f1969337a1f71a8a0f7cebd776bb0b6b723b35eb80a97c"), looks := false }, kinds := [], alts := [], laidByText := true, laidKinds := [.data, .data], laidTests := true, laidLooks := .later }
def FnExactCodeNearUptoCardSaid : Prop := Claim7.holds Tryd.pinned (.plain (OpenSpec.upto fnExactCodeNearSpec)) fnExactCodeNearUptoCard

/-- THE SECOND FORM's CARD OF 'laws.FnExactCodeMend'. -/
def fnExactCodeMendUptoCard : Claim7 := { stood := { row := fnExactCodeMendUptoRow, standIns := [], harness := (true, "b7208a8385cf290072f1969337a1f71a8a0f7cebd776bb0b6b723b35eb80a97c"), looks := false }, kinds := [], alts := [], laidByText := true, laidKinds := [.data, .data], laidTests := true, laidLooks := .later }
def FnExactCodeMendUptoCardSaid : Prop := Claim7.holds Tryd.pinned (.plain (OpenSpec.upto fnExactCodeMendSpec)) fnExactCodeMendUptoCard

/-- THE SECOND FORM's CARD OF 'laws.FnExactOctadIn'. -/
def fnExactOctadInUptoCard : Claim7 := { stood := { row := fnExactOctadInUptoRow, standIns := [], harness := (true, "b7208a8385cf290072f1969337a1f71a8a0f7cebd776bb0b6b723b35eb80a97c"), looks := false }, kinds := [], alts := [], laidByText := true, laidKinds := [.data, .data, .data], laidTests := true, laidLooks := .later }
def FnExactOctadInUptoCardSaid : Prop := Claim7.holds Tryd.pinned (.plain (OpenSpec.upto fnExactOctadInSpec)) fnExactOctadInUptoCard

/-- THE SECOND FORM's CARD OF 'laws.FnExactOctadPair'. -/
def fnExactOctadPairUptoCard : Claim7 := { stood := { row := fnExactOctadPairUptoRow, standIns := [], harness := (true, "b7208a8385cf290072f1969337a1f71a8a0f7cebd776bb0b6b723b35eb80a97c"), looks := false }, kinds := [], alts := [], laidByText := true, laidKinds := [.data, .data, .data], laidTests := true, laidLooks := .later }
def FnExactOctadPairUptoCardSaid : Prop := Claim7.holds Tryd.pinned (.plain (OpenSpec.upto fnExactOctadPairSpec)) fnExactOctadPairUptoCard
end Rows
end Go.Proofs.YtongfkjlajmgfaaDoor
