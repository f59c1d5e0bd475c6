/-
  DERIVED. GIVEN WITH THE SEED: THE CARDS: each row of YtagniijhbiglaaaGreatDoorRows.lean that lists a variable, with what it lists TIED to the program's text (the seventh form; the later family's looks); each row that meets fmt, with fmt's text TOLD by the authors' own Lean function (tested against real Go, not proved from fmt's source: count such statements apart). THE CARD IS WHAT COUNTS. Prove the row's statement (the work); the ties are given (YtagniijhbiglaaaGreatDoorTie.lean); close each card by the builder's one call (the guide's Derived/Test/ToyasCard.lean, 'card_holds'). Laid BY PROGRAM, IN A SANDBOX (cutbox-door.mjs). By AI agents, Wed Nov 11 2026. No macro, syntax, notation, axiom, sorry.
-/
import Derived.Test.YtagniijhbiglaaaGreatDoorRows
import GoSem.ClaimSeven
namespace Go.Proofs.YtagniijhbiglaaaGreatDoor
namespace Rows

/-- THE TIED CARD OF 'laws.FnSextetOctads'. -/
def fnSextetOctadsCard : Claim7 := { stood := { row := fnSextetOctadsRow, standIns := [], harness := (true, "8a8b608e905a0b2012fb3e3d34204c5ec101821e09d154636779439072837107"), looks := false }, kinds := [], alts := [], laidByText := true, laidKinds := [.data, .data, .data], laidTests := true, laidLooks := .later }
def FnSextetOctadsCardSaid : Prop := Claim7.holds Tryz.pinned (.plain (OpenSpec.ofChange fnSextetOctadsSpec)) fnSextetOctadsCard

/-- THE TIED CARD OF 'laws.FnHolds'. -/
def fnHoldsCard : Claim7 := { stood := { row := fnHoldsRow, standIns := [], harness := (true, "8a8b608e905a0b2012fb3e3d34204c5ec101821e09d154636779439072837107"), looks := false }, kinds := [], alts := [], laidByText := true, laidKinds := [.data, .data, .data], laidTests := true, laidLooks := .later }
def FnHoldsCardSaid : Prop := Claim7.holds Tryz.pinned (.plain (OpenSpec.ofChange fnHoldsSpec)) fnHoldsCard

/-- THE SECOND FORM's CARD OF 'laws.FnSextetOctads'. -/
def fnSextetOctadsUptoCard : Claim7 := { stood := { row := fnSextetOctadsUptoRow, standIns := [], harness := (true, "8a8b608e905a0b2012fb3e3d34204c5ec101821e09d154636779439072837107"), looks := false }, kinds := [], alts := [], laidByText := true, laidKinds := [.data, .data, .data], laidTests := true, laidLooks := .later }
def FnSextetOctadsUptoCardSaid : Prop := Claim7.holds Tryz.pinned (.plain (OpenSpec.upto fnSextetOctadsSpec)) fnSextetOctadsUptoCard

/-- THE SECOND FORM's CARD OF 'laws.FnHolds'. -/
def fnHoldsUptoCard : Claim7 := { stood := { row := fnHoldsUptoRow, standIns := [], harness := (true, "8a8b608e905a0b2012fb3e3d34204c5ec101821e09d154636779439072837107"), looks := false }, kinds := [], alts := [], laidByText := true, laidKinds := [.data, .data, .data], laidTests := true, laidLooks := .later }
def FnHoldsUptoCardSaid : Prop := Claim7.holds Tryz.pinned (.plain (OpenSpec.upto fnHoldsSpec)) fnHoldsUptoCard
end Rows
end Go.Proofs.YtagniijhbiglaaaGreatDoor
