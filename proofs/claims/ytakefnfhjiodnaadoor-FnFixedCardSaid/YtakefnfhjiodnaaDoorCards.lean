/-
  DERIVED. GIVEN WITH THE SEED: THE CARDS: each row of YtakefnfhjiodnaaDoorRows.lean that lists a variable, with what it lists TIED to the program's text (the seventh form; the later family's looks); each row that meets fmt, with fmt's text TOLD by the authors' own Lean function (tested against real Go, not proved from fmt's source: count such statements apart). THE CARD IS WHAT COUNTS. Prove the row's statement (the work); the ties are given (YtakefnfhjiodnaaDoorTie.lean); close each card by the builder's one call (the guide's Derived/Test/ToyasCard.lean, 'card_holds'). Laid BY PROGRAM, IN A SANDBOX (cutbox-door.mjs). By AI agents, Wed Nov 11 2026. No macro, syntax, notation, axiom, sorry.
-/
import Derived.Test.YtakefnfhjiodnaaDoorRows
import GoSem.ClaimSeven
namespace Go.Proofs.YtakefnfhjiodnaaDoor
namespace Rows

/-- THE TIED CARD OF 'laws.FnPerm'. -/
def fnPermCard : Claim7 := { stood := { row := fnPermRow, standIns := [], harness := (true, "db7832802122636917499c899d84d106ce9f0341155a37644fed8051d739e145"), looks := false }, kinds := [], alts := [], laidByText := true, laidKinds := [.data], laidTests := true, laidLooks := .later }
def FnPermCardSaid : Prop := Claim7.holds Tryd.pinned (.plain (OpenSpec.ofChange fnPermSpec)) fnPermCard

/-- THE TIED CARD OF 'laws.FnTimes'. -/
def fnTimesCard : Claim7 := { stood := { row := fnTimesRow, standIns := [], harness := (true, "db7832802122636917499c899d84d106ce9f0341155a37644fed8051d739e145"), looks := false }, kinds := [], alts := [], laidByText := true, laidKinds := [.data, .data, .data], laidTests := true, laidLooks := .later }
def FnTimesCardSaid : Prop := Claim7.holds Tryd.pinned (.plain (OpenSpec.ofChange fnTimesSpec)) fnTimesCard

/-- THE TIED CARD OF 'laws.FnTurned'. -/
def fnTurnedCard : Claim7 := { stood := { row := fnTurnedRow, standIns := [], harness := (true, "db7832802122636917499c899d84d106ce9f0341155a37644fed8051d739e145"), looks := false }, kinds := [], alts := [], laidByText := true, laidKinds := [.data, .data, .data], laidTests := true, laidLooks := .later }
def FnTurnedCardSaid : Prop := Claim7.holds Tryd.pinned (.plain (OpenSpec.ofChange fnTurnedSpec)) fnTurnedCard

/-- THE TIED CARD OF 'laws.FnPermWord'. -/
def fnPermWordCard : Claim7 := { stood := { row := fnPermWordRow, standIns := [], harness := (true, "db7832802122636917499c899d84d106ce9f0341155a37644fed8051d739e145"), looks := false }, kinds := [], alts := [], laidByText := true, laidKinds := [.data, .data, .data], laidTests := true, laidLooks := .later }
def FnPermWordCardSaid : Prop := Claim7.holds Tryd.pinned (.plain (OpenSpec.ofChange fnPermWordSpec)) fnPermWordCard

/-- THE TIED CARD OF 'laws.FnOrder'. -/
def fnOrderCard : Claim7 := { stood := { row := fnOrderRow, standIns := [], harness := (true, "db7832802122636917499c899d84d106ce9f0341155a37644fed8051d739e145"), looks := false }, kinds := [], alts := [], laidByText := true, laidKinds := [.data, .data, .data], laidTests := true, laidLooks := .later }
def FnOrderCardSaid : Prop := Claim7.holds Tryd.pinned (.plain (OpenSpec.ofChange fnOrderSpec)) fnOrderCard

/-- THE TIED CARD OF 'laws.FnFixed'. -/
def fnFixedCard : Claim7 := { stood := { row := fnFixedRow, standIns := [], harness := (true, "db7832802122636917499c899d84d106ce9f0341155a37644fed8051d739e145"), looks := false }, kinds := [], alts := [], laidByText := true, laidKinds := [.data, .data, .data], laidTests := true, laidLooks := .later }
def FnFixedCardSaid : Prop := Claim7.holds Tryd.pinned (.plain (OpenSpec.ofChange fnFixedSpec)) fnFixedCard

/-- THE TIED CARD OF 'laws.FnKeeps'. -/
def fnKeepsCard : Claim7 := { stood := { row := fnKeepsRow, standIns := [], harness := (true, "db7832802122636917499c899d84d106ce9f0341155a37644fed8051d739e145"), looks := false }, kinds := [], alts := [], laidByText := true, laidKinds := [.data, .data, .data], laidTests := true, laidLooks := .later }
def FnKeepsCardSaid : Prop := Claim7.holds Tryd.pinned (.plain (OpenSpec.ofChange fnKeepsSpec)) fnKeepsCard

/-- THE TIED CARD OF 'laws.FnPermHex'. -/
def fnPermHexCard : Claim7 := { stood := { row := fnPermHexRow, standIns := [], harness := (true, "db7832802122636917499c899d84d106ce9f0341155a37644fed8051d739e145"), looks := false }, kinds := [], alts := [], laidByText := true, laidKinds := [.data, .data, .data], laidTests := true, laidLooks := .later }
def FnPermHexCardSaid : Prop := Claim7.holds Tryd.pinned (.plain (OpenSpec.ofChange fnPermHexSpec)) fnPermHexCard

/-- THE TIED CARD OF 'laws.FnPermScale'. -/
def fnPermScaleCard : Claim7 := { stood := { row := fnPermScaleRow, standIns := [], harness := (true, "db7832802122636917499c899d84d106ce9f0341155a37644fed8051d739e145"), looks := false }, kinds := [], alts := [], laidByText := true, laidKinds := [.data, .data, .data], laidTests := true, laidLooks := .later }
def FnPermScaleCardSaid : Prop := Claim7.holds Tryd.pinned (.plain (OpenSpec.ofChange fnPermScaleSpec)) fnPermScaleCard

/-- THE SECOND FORM's CARD OF 'laws.FnPerm'. -/
def fnPermUptoCard : Claim7 := { stood := { row := fnPermUptoRow, standIns := [], harness := (true, "db7832802122636917499c899d84d106ce9f0341155a37644fed8051d739e145"), looks := false }, kinds := [], alts := [], laidByText := true, laidKinds := [.data], laidTests := true, laidLooks := .later }
def FnPermUptoCardSaid : Prop := Claim7.holds Tryd.pinned (.plain (OpenSpec.upto fnPermSpec)) fnPermUptoCard

/-- THE SECOND FORM's CARD OF 'laws.FnTimes'. -/
def fnTimesUptoCard : Claim7 := { stood := { row := fnTimesUptoRow, standIns := [], harness := (true, "db7832802122636917499c899d84d106ce9f0341155a37644fed8051d739e145"), looks := false }, kinds := [], alts := [], laidByText := true, laidKinds := [.data, .data, .data], laidTests := true, laidLooks := .later }
def FnTimesUptoCardSaid : Prop := Claim7.holds Tryd.pinned (.plain (OpenSpec.upto fnTimesSpec)) fnTimesUptoCard

/-- THE SECOND FORM's CARD OF 'laws.FnTurned'. -/
def fnTurnedUptoCard : Claim7 := { stood := { row := fnTurnedUptoRow, standIns := [], harness := (true, "db7832802122636917499c899d84d106ce9f0341155a37644fed8051d739e145"), looks := false }, kinds := [], alts := [], laidByText := true, laidKinds := [.data, .data, .data], laidTests := true, laidLooks := .later }
def FnTurnedUptoCardSaid : Prop := Claim7.holds Tryd.pinned (.plain (OpenSpec.upto fnTurnedSpec)) fnTurnedUptoCard

/-- THE SECOND FORM's CARD OF 'laws.FnPermWord'. -/
def fnPermWordUptoCard : Claim7 := { stood := { row := fnPermWordUptoRow, standIns := [], harness := (true, "db7832802122636917499c899d84d106ce9f0341155a37644fed8051d739e145"), looks := false }, kinds := [], alts := [], laidByText := true, laidKinds := [.data, .data, .data], laidTests := true, laidLooks := .later }
def FnPermWordUptoCardSaid : Prop := Claim7.holds Tryd.pinned (.plain (OpenSpec.upto fnPermWordSpec)) fnPermWordUptoCard

/-- THE SECOND FORM's CARD OF 'laws.FnOrder'. -/
def fnOrderUptoCard : Claim7 := { stood := { row := fnOrderUptoRow, standIns := [], harness := (true, "db7832802122636917499c899d84d106ce9f0341155a37644fed8051d739e145"), looks := false }, kinds := [], alts := [], laidByText := true, laidKinds := [.data, .data, .data], laidTests := true, laidLooks := .later }
def FnOrderUptoCardSaid : Prop := Claim7.holds Tryd.pinned (.plain (OpenSpec.upto fnOrderSpec)) fnOrderUptoCard

/-- THE SECOND FORM's CARD OF 'laws.FnFixed'. -/
def fnFixedUptoCard : Claim7 := { stood := { row := fnFixedUptoRow, standIns := [], harness := (true, "db7832802122636917499c899d84d106ce9f0341155a37644fed8051d739e145"), looks := false }, kinds := [], alts := [], laidByText := true, laidKinds := [.data, .data, .data], laidTests := true, laidLooks := .later }
def FnFixedUptoCardSaid : Prop := Claim7.holds Tryd.pinned (.plain (OpenSpec.upto fnFixedSpec)) fnFixedUptoCard

/-- THE SECOND FORM's CARD OF 'laws.FnKeeps'. -/
def fnKeepsUptoCard : Claim7 := { stood := { row := fnKeepsUptoRow, standIns := [], harness := (true, "db7832802122636917499c899d84d106ce9f0341155a37644fed8051d739e145"), looks := false }, kinds := [], alts := [], laidByText := true, laidKinds := [.data, .data, .data], laidTests := true, laidLooks := .later }
def FnKeepsUptoCardSaid : Prop := Claim7.holds Tryd.pinned (.plain (OpenSpec.upto fnKeepsSpec)) fnKeepsUptoCard

/-- THE SECOND FORM's CARD OF 'laws.FnPermHex'. -/
def fnPermHexUptoCard : Claim7 := { stood := { row := fnPermHexUptoRow, standIns := [], harness := (true, "db7832802122636917499c899d84d106ce9f0341155a37644fed8051d739e145"), looks := false }, kinds := [], alts := [], laidByText := true, laidKinds := [.data, .data, .data], laidTests := true, laidLooks := .later }
def FnPermHexUptoCardSaid : Prop := Claim7.holds Tryd.pinned (.plain (OpenSpec.upto fnPermHexSpec)) fnPermHexUptoCard

/-- THE SECOND FORM's CARD OF 'laws.FnPermScale'. -/
def fnPermScaleUptoCard : Claim7 := { stood := { row := fnPermScaleUptoRow, standIns := [], harness := (true, "db7832802122636917499c899d84d106ce9f0341155a37644fed8051d739e145"), looks := false }, kinds := [], alts := [], laidByText := true, laidKinds := [.data, .data, .data], laidTests := true, laidLooks := .later }
def FnPermScaleUptoCardSaid : Prop := Claim7.holds Tryd.pinned (.plain (OpenSpec.upto fnPermScaleSpec)) fnPermScaleUptoCard
end Rows
end Go.Proofs.YtakefnfhjiodnaaDoor
