/-
  DERIVED. GIVEN WITH THE SEED: THE CARDS: each row of YtiinekoepoonfaaDoorRows.lean that lists a variable, with what it lists TIED to the program's text (the seventh form; the later family's looks); each row that meets fmt, with fmt's text TOLD by the authors' own Lean function (tested against real Go, not proved from fmt's source: count such statements apart). THE CARD IS WHAT COUNTS. Prove the row's statement (the work); the ties are given (YtiinekoepoonfaaDoorTie.lean); close each card by the builder's one call (the guide's Derived/Test/ToyasCard.lean, 'card_holds'). Laid BY PROGRAM, IN A SANDBOX (cutbox-door.mjs). By AI agents, Wed Nov 11 2026. No macro, syntax, notation, axiom, sorry.
-/
import Derived.Test.YtiinekoepoonfaaDoorRows
import GoSem.ClaimSeven
namespace Go.Proofs.YtiinekoepoonfaaDoor
namespace Rows

/-- THE TIED CARD OF 'laws.FnOctadCount'. -/
def fnOctadCountCard : Claim7 := { stood := { row := fnOctadCountRow, standIns := [], harness := (true, "f42a429bbebb75606be1372965235446a1efa85244c20e8b3b9684e1ca3019c6"), looks := false }, kinds := [], alts := [], laidByText := true, laidKinds := [.data, .data], laidTests := true, laidLooks := .later }
def FnOctadCountCardSaid : Prop := Claim7.holds Tryd.pinned (.plain (OpenSpec.ofChange fnOctadCountSpec)) fnOctadCountCard

/-- THE TIED CARD OF 'laws.FnOctadMeet'. -/
def fnOctadMeetCard : Claim7 := { stood := { row := fnOctadMeetRow, standIns := [], harness := (true, "f42a429bbebb75606be1372965235446a1efa85244c20e8b3b9684e1ca3019c6"), looks := false }, kinds := [], alts := [], laidByText := true, laidKinds := [.data, .data, .data], laidTests := true, laidLooks := .later }
def FnOctadMeetCardSaid : Prop := Claim7.holds Tryd.pinned (.plain (OpenSpec.ofChange fnOctadMeetSpec)) fnOctadMeetCard

/-- THE TIED CARD OF 'laws.FnOctadPair'. -/
def fnOctadPairCard : Claim7 := { stood := { row := fnOctadPairRow, standIns := [], harness := (true, "f42a429bbebb75606be1372965235446a1efa85244c20e8b3b9684e1ca3019c6"), looks := false }, kinds := [], alts := [], laidByText := true, laidKinds := [.data, .data, .data], laidTests := true, laidLooks := .later }
def FnOctadPairCardSaid : Prop := Claim7.holds Tryd.pinned (.plain (OpenSpec.ofChange fnOctadPairSpec)) fnOctadPairCard

/-- THE TIED CARD OF 'laws.FnDodecad'. -/
def fnDodecadCard : Claim7 := { stood := { row := fnDodecadRow, standIns := [], harness := (true, "f42a429bbebb75606be1372965235446a1efa85244c20e8b3b9684e1ca3019c6"), looks := false }, kinds := [], alts := [], laidByText := true, laidKinds := [.data, .data, .data], laidTests := true, laidLooks := .later }
def FnDodecadCardSaid : Prop := Claim7.holds Tryd.pinned (.plain (OpenSpec.ofChange fnDodecadSpec)) fnDodecadCard

/-- THE TIED CARD OF 'laws.FnExactOctadCount'. -/
def fnExactOctadCountCard : Claim7 := { stood := { row := fnExactOctadCountRow, standIns := [], harness := (true, "f42a429bbebb75606be1372965235446a1efa85244c20e8b3b9684e1ca3019c6"), looks := false }, kinds := [], alts := [], laidByText := true, laidKinds := [.data, .data], laidTests := true, laidLooks := .later }
def FnExactOctadCountCardSaid : Prop := Claim7.holds Tryd.pinned (.plain (OpenSpec.ofChange fnExactOctadCountSpec)) fnExactOctadCountCard

/-- THE TIED CARD OF 'laws.FnExactOctadMeet'. -/
def fnExactOctadMeetCard : Claim7 := { stood := { row := fnExactOctadMeetRow, standIns := [], harness := (true, "f42a429bbebb75606be1372965235446a1efa85244c20e8b3b9684e1ca3019c6"), looks := false }, kinds := [], alts := [], laidByText := true, laidKinds := [.data, .data, .data], laidTests := true, laidLooks := .later }
def FnExactOctadMeetCardSaid : Prop := Claim7.holds Tryd.pinned (.plain (OpenSpec.ofChange fnExactOctadMeetSpec)) fnExactOctadMeetCard

/-- THE TIED CARD OF 'laws.FnExactDodecadOf'. -/
def fnExactDodecadOfCard : Claim7 := { stood := { row := fnExactDodecadOfRow, standIns := [], harness := (true, "f42a429bbebb75606be1372965235446a1efa85244c20e8b3b9684e1ca3019c6"), looks := false }, kinds := [], alts := [], laidByText := true, laidKinds := [.data, .data, .data], laidTests := true, laidLooks := .later }
def FnExactDodecadOfCardSaid : Prop := Claim7.holds Tryd.pinned (.plain (OpenSpec.ofChange fnExactDodecadOfSpec)) fnExactDodecadOfCard

/-- THE SECOND FORM's CARD OF 'laws.FnOctadCount'. -/
def fnOctadCountUptoCard : Claim7 := { stood := { row := fnOctadCountUptoRow, standIns := [], harness := (true, "f42a429bbebb75606be1372965235446a1efa85244c20e8b3b9684e1ca3019c6"), looks := false }, kinds := [], alts := [], laidByText := true, laidKinds := [.data, .data], laidTests := true, laidLooks := .later }
def FnOctadCountUptoCardSaid : Prop := Claim7.holds Tryd.pinned (.plain (OpenSpec.upto fnOctadCountSpec)) fnOctadCountUptoCard

/-- THE SECOND FORM's CARD OF 'laws.FnOctadMeet'. -/
def fnOctadMeetUptoCard : Claim7 := { stood := { row := fnOctadMeetUptoRow, standIns := [], harness := (true, "f42a429bbebb75606be1372965235446a1efa85244c20e8b3b9684e1ca3019c6"), looks := false }, kinds := [], alts := [], laidByText := true, laidKinds := [.data, .data, .data], laidTests := true, laidLooks := .later }
def FnOctadMeetUptoCardSaid : Prop := Claim7.holds Tryd.pinned (.plain (OpenSpec.upto fnOctadMeetSpec)) fnOctadMeetUptoCard

/-- THE SECOND FORM's CARD OF 'laws.FnOctadPair'. -/
def fnOctadPairUptoCard : Claim7 := { stood := { row := fnOctadPairUptoRow, standIns := [], harness := (true, "f42a429bbebb75606be1372965235446a1efa85244c20e8b3b9684e1ca3019c6"), looks := false }, kinds := [], alts := [], laidByText := true, laidKinds := [.data, .data, .data], laidTests := true, laidLooks := .later }
def FnOctadPairUptoCardSaid : Prop := Claim7.holds Tryd.pinned (.plain (OpenSpec.upto fnOctadPairSpec)) fnOctadPairUptoCard

/-- THE SECOND FORM's CARD OF 'laws.FnDodecad'. -/
def fnDodecadUptoCard : Claim7 := { stood := { row := fnDodecadUptoRow, standIns := [], harness := (true, "f42a429bbebb75606be1372965235446a1efa85244c20e8b3b9684e1ca3019c6"), looks := false }, kinds := [], alts := [], laidByText := true, laidKinds := [.data, .data, .data], laidTests := true, laidLooks := .later }
def FnDodecadUptoCardSaid : Prop := Claim7.holds Tryd.pinned (.plain (OpenSpec.upto fnDodecadSpec)) fnDodecadUptoCard

/-- THE SECOND FORM's CARD OF 'laws.FnExactOctadCount'. -/
def fnExactOctadCountUptoCard : Claim7 := { stood := { row := fnExactOctadCountUptoRow, standIns := [], harness := (true, "f42a429bbebb75606be1372965235446a1efa85244c20e8b3b9684e1ca3019c6"), looks := false }, kinds := [], alts := [], laidByText := true, laidKinds := [.data, .data], laidTests := true, laidLooks := .later }
def FnExactOctadCountUptoCardSaid : Prop := Claim7.holds Tryd.pinned (.plain (OpenSpec.upto fnExactOctadCountSpec)) fnExactOctadCountUptoCard

/-- THE SECOND FORM's CARD OF 'laws.FnExactOctadMeet'. -/
def fnExactOctadMeetUptoCard : Claim7 := { stood := { row := fnExactOctadMeetUptoRow, standIns := [], harness := (true, "f42a429bbebb75606be1372965235446a1efa85244c20e8b3b9684e1ca3019c6"), looks := false }, kinds := [], alts := [], laidByText := true, laidKinds := [.data, .data, .data], laidTests := true, laidLooks := .later }
def FnExactOctadMeetUptoCardSaid : Prop := Claim7.holds Tryd.pinned (.plain (OpenSpec.upto fnExactOctadMeetSpec)) fnExactOctadMeetUptoCard

/-- THE SECOND FORM's CARD OF 'laws.FnExactDodecadOf'. -/
def fnExactDodecadOfUptoCard : Claim7 := { stood := { row := fnExactDodecadOfUptoRow, standIns := [], harness := (true, "f42a429bbebb75606be1372965235446a1efa85244c20e8b3b9684e1ca3019c6"), looks := false }, kinds := [], alts := [], laidByText := true, laidKinds := [.data, .data, .data], laidTests := true, laidLooks := .later }
def FnExactDodecadOfUptoCardSaid : Prop := Claim7.holds Tryd.pinned (.plain (OpenSpec.upto fnExactDodecadOfSpec)) fnExactDodecadOfUptoCard
end Rows
end Go.Proofs.YtiinekoepoonfaaDoor
