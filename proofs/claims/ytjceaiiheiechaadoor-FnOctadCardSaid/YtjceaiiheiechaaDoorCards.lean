/-
  DERIVED. GIVEN WITH THE SEED: THE CARDS: each row of YtjceaiiheiechaaDoorRows.lean that lists a variable, with what it lists TIED to the program's text (the seventh form; the later family's looks); each row that meets fmt, with fmt's text TOLD by the authors' own Lean function (tested against real Go, not proved from fmt's source: count such statements apart). THE CARD IS WHAT COUNTS. Prove the row's statement (the work); the ties are given (YtjceaiiheiechaaDoorTie.lean); close each card by the builder's one call (the guide's Derived/Test/ToyasCard.lean, 'card_holds'). Laid BY PROGRAM, IN A SANDBOX (cutbox-door.mjs). By AI agents, Wed Nov 11 2026. No macro, syntax, notation, axiom, sorry.
-/
import Derived.Test.YtjceaiiheiechaaDoorRows
import GoSem.ClaimSeven
namespace Go.Proofs.YtjceaiiheiechaaDoor
namespace Rows

/-- THE TIED CARD OF 'laws.FnExactLineSum'. -/
def fnExactLineSumCard : Claim7 := { stood := { row := fnExactLineSumRow, standIns := [], harness := (true, "14b14efd89576c00e1fc240c9208813d356a8119c06794062dd26e9affc2c1b2"), looks := false }, kinds := [], alts := [], laidByText := true, laidKinds := [.data], laidTests := true, laidLooks := .later }
def FnExactLineSumCardSaid : Prop := Claim7.holds Tryd.pinned (.plain (OpenSpec.ofChange fnExactLineSumSpec)) fnExactLineSumCard

/-- THE TIED CARD OF 'laws.FnExactLineIn'. -/
def fnExactLineInCard : Claim7 := { stood := { row := fnExactLineInRow, standIns := [], harness := (true, "14b14efd89576c00e1fc240c9208813d356a8119c06794062dd26e9affc2c1b2"), looks := false }, kinds := [], alts := [], laidByText := true, laidKinds := [.data], laidTests := true, laidLooks := .later }
def FnExactLineInCardSaid : Prop := Claim7.holds Tryd.pinned (.plain (OpenSpec.ofChange fnExactLineInSpec)) fnExactLineInCard

/-- THE TIED CARD OF 'laws.FnOctad'. -/
def fnOctadCard : Claim7 := { stood := { row := fnOctadRow, standIns := [], harness := (true, "14b14efd89576c00e1fc240c9208813d356a8119c06794062dd26e9affc2c1b2"), looks := false }, kinds := [], alts := [], laidByText := true, laidKinds := [.data, .data, .data], laidTests := true, laidLooks := .later }
def FnOctadCardSaid : Prop := Claim7.holds Tryd.pinned (.plain (OpenSpec.ofChange fnOctadSpec)) fnOctadCard

/-- THE SECOND FORM's CARD OF 'laws.FnExactLineSum'. -/
def fnExactLineSumUptoCard : Claim7 := { stood := { row := fnExactLineSumUptoRow, standIns := [], harness := (true, "14b14efd89576c00e1fc240c9208813d356a8119c06794062dd26e9affc2c1b2"), looks := false }, kinds := [], alts := [], laidByText := true, laidKinds := [.data], laidTests := true, laidLooks := .later }
def FnExactLineSumUptoCardSaid : Prop := Claim7.holds Tryd.pinned (.plain (OpenSpec.upto fnExactLineSumSpec)) fnExactLineSumUptoCard

/-- THE SECOND FORM's CARD OF 'laws.FnExactLineIn'. -/
def fnExactLineInUptoCard : Claim7 := { stood := { row := fnExactLineInUptoRow, standIns := [], harness := (true, "14b14efd89576c00e1fc240c9208813d356a8119c06794062dd26e9affc2c1b2"), looks := false }, kinds := [], alts := [], laidByText := true, laidKinds := [.data], laidTests := true, laidLooks := .later }
def FnExactLineInUptoCardSaid : Prop := Claim7.holds Tryd.pinned (.plain (OpenSpec.upto fnExactLineInSpec)) fnExactLineInUptoCard

/-- THE SECOND FORM's CARD OF 'laws.FnOctad'. -/
def fnOctadUptoCard : Claim7 := { stood := { row := fnOctadUptoRow, standIns := [], harness := (true, "14b14efd89576c00e1fc240c9208813d356a8119c06794062dd26e9affc2c1b2"), looks := false }, kinds := [], alts := [], laidByText := true, laidKinds := [.data, .data, .data], laidTests := true, laidLooks := .later }
def FnOctadUptoCardSaid : Prop := Claim7.holds Tryd.pinned (.plain (OpenSpec.upto fnOctadSpec)) fnOctadUptoCard
end Rows
end Go.Proofs.YtjceaiiheiechaaDoor
