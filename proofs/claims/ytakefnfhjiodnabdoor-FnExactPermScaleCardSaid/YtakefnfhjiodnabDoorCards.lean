/-
  DERIVED. GIVEN WITH THE SEED: THE CARDS: each row of YtakefnfhjiodnabDoorRows.lean that lists a variable, with what it lists TIED to the program's text (the seventh form; the later family's looks); each row that meets fmt, with fmt's text TOLD by the authors' own Lean function (tested against real Go, not proved from fmt's source: count such statements apart). THE CARD IS WHAT COUNTS. Prove the row's statement (the work); the ties are given (YtakefnfhjiodnabDoorTie.lean); close each card by the builder's one call (the guide's Derived/Test/ToyasCard.lean, 'card_holds'). Laid BY PROGRAM, IN A SANDBOX (cutbox-door.mjs). By AI agents, Wed Nov 11 2026. No macro, syntax, notation, axiom, sorry.
-/
import Derived.Test.YtakefnfhjiodnabDoorRows
import GoSem.ClaimSeven
namespace Go.Proofs.YtakefnfhjiodnabDoor
namespace Rows

/-- THE TIED CARD OF 'laws.FnExactPermWord'. -/
def fnExactPermWordCard : Claim7 := { stood := { row := fnExactPermWordRow, standIns := [], harness := (true, "954209c8a73a7286705b1f3972a1199e3f9383544a2cae443b4ab6c7edd37a5d"), looks := false }, kinds := [], alts := [], laidByText := true, laidKinds := [.data], laidTests := true, laidLooks := .later }
def FnExactPermWordCardSaid : Prop := Claim7.holds Tryd.pinned (.plain (OpenSpec.ofChange fnExactPermWordSpec)) fnExactPermWordCard

/-- THE TIED CARD OF 'laws.FnExactPermKeeps'. -/
def fnExactPermKeepsCard : Claim7 := { stood := { row := fnExactPermKeepsRow, standIns := [], harness := (true, "954209c8a73a7286705b1f3972a1199e3f9383544a2cae443b4ab6c7edd37a5d"), looks := false }, kinds := [], alts := [], laidByText := true, laidKinds := [.data, .data, .data], laidTests := true, laidLooks := .later }
def FnExactPermKeepsCardSaid : Prop := Claim7.holds Tryd.pinned (.plain (OpenSpec.ofChange fnExactPermKeepsSpec)) fnExactPermKeepsCard

/-- THE TIED CARD OF 'laws.FnExactPermHex'. -/
def fnExactPermHexCard : Claim7 := { stood := { row := fnExactPermHexRow, standIns := [], harness := (true, "954209c8a73a7286705b1f3972a1199e3f9383544a2cae443b4ab6c7edd37a5d"), looks := false }, kinds := [], alts := [], laidByText := true, laidKinds := [.data], laidTests := true, laidLooks := .later }
def FnExactPermHexCardSaid : Prop := Claim7.holds Tryd.pinned (.plain (OpenSpec.ofChange fnExactPermHexSpec)) fnExactPermHexCard

/-- THE TIED CARD OF 'laws.FnExactPermScale'. -/
def fnExactPermScaleCard : Claim7 := { stood := { row := fnExactPermScaleRow, standIns := [], harness := (true, "954209c8a73a7286705b1f3972a1199e3f9383544a2cae443b4ab6c7edd37a5d"), looks := false }, kinds := [], alts := [], laidByText := true, laidKinds := [.data], laidTests := true, laidLooks := .later }
def FnExactPermScaleCardSaid : Prop := Claim7.holds Tryd.pinned (.plain (OpenSpec.ofChange fnExactPermScaleSpec)) fnExactPermScaleCard

/-- THE SECOND FORM's CARD OF 'laws.FnExactPermWord'. -/
def fnExactPermWordUptoCard : Claim7 := { stood := { row := fnExactPermWordUptoRow, standIns := [], harness := (true, "954209c8a73a7286705b1f3972a1199e3f9383544a2cae443b4ab6c7edd37a5d"), looks := false }, kinds := [], alts := [], laidByText := true, laidKinds := [.data], laidTests := true, laidLooks := .later }
def FnExactPermWordUptoCardSaid : Prop := Claim7.holds Tryd.pinned (.plain (OpenSpec.upto fnExactPermWordSpec)) fnExactPermWordUptoCard

/-- THE SECOND FORM's CARD OF 'laws.FnExactPermKeeps'. -/
def fnExactPermKeepsUptoCard : Claim7 := { stood := { row := fnExactPermKeepsUptoRow, standIns := [], harness := (true, "954209c8a73a7286705b1f3972a1199e3f9383544a2cae443b4ab6c7edd37a5d"), looks := false }, kinds := [], alts := [], laidByText := true, laidKinds := [.data, .data, .data], laidTests := true, laidLooks := .later }
def FnExactPermKeepsUptoCardSaid : Prop := Claim7.holds Tryd.pinned (.plain (OpenSpec.upto fnExactPermKeepsSpec)) fnExactPermKeepsUptoCard

/-- THE SECOND FORM's CARD OF 'laws.FnExactPermHex'. -/
def fnExactPermHexUptoCard : Claim7 := { stood := { row := fnExactPermHexUptoRow, standIns := [], harness := (true, "954209c8a73a7286705b1f3972a1199e3f9383544a2cae443b4ab6c7edd37a5d"), looks := false }, kinds := [], alts := [], laidByText := true, laidKinds := [.data], laidTests := true, laidLooks := .later }
def FnExactPermHexUptoCardSaid : Prop := Claim7.holds Tryd.pinned (.plain (OpenSpec.upto fnExactPermHexSpec)) fnExactPermHexUptoCard

/-- THE SECOND FORM's CARD OF 'laws.FnExactPermScale'. -/
def fnExactPermScaleUptoCard : Claim7 := { stood := { row := fnExactPermScaleUptoRow, standIns := [], harness := (true, "954209c8a73a7286705b1f3972a1199e3f9383544a2cae443b4ab6c7edd37a5d"), looks := false }, kinds := [], alts := [], laidByText := true, laidKinds := [.data], laidTests := true, laidLooks := .later }
def FnExactPermScaleUptoCardSaid : Prop := Claim7.holds Tryd.pinned (.plain (OpenSpec.upto fnExactPermScaleSpec)) fnExactPermScaleUptoCard
end Rows
end Go.Proofs.YtakefnfhjiodnabDoor
