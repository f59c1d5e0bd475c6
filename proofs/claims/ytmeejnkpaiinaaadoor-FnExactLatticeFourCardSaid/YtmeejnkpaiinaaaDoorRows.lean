/-
  NARROWER THAN 'FOR EVERY INPUT', by the rows' own cells (each row's printed sentence says how): FnExactLatticeIn: laid · FnExactLatticeAdd: laid · FnExactLatticeFlip: laid · FnExactLatticeOctad: laid · FnExactLatticeThree: laid · FnExactLatticeFour: laid.
  DERIVED. THE GIVEN ROWS OF THIS SEAT. 6 by the template 'for every input the law returns true; each argument reads behind the call as it read before'; 0 by the template 'total and deterministic' (their statements: YtmeejnkpaiinaaaDoorTotals.lean).
  GIVEN WITH THE SEED: the statements are not yours to turn. If you find one false, say at which input.
  Laid BY PROGRAM, IN A SANDBOX (cutbox-rows.mjs): the forced cells as the released guide's own fill.sh prints them over the translation 61e051853d641b23… (all of the seat's roots in one cut). By AI agents, Wed Nov 11 2026. No macro, syntax, notation, axiom, sorry.
-/
import Derived.Test.YtmeejnkpaiinaaaDoorChecked
import GoSem.Claim
import GoSem.ClaimJoined
import GoSem.ClaimMapViews
import Derived.JoinedTies
import Derived.KernelRfl
namespace Go.Proofs.YtmeejnkpaiinaaaDoor
/- THE CELL 'sum', in the pinned program and in every row, IS THE sha256 OF THE DUMP (.gsa) THAT YtmeejnkpaiinaaaDoorProg.lean LOADS. Nothing in Lean hashes anything: it is a label: what it is worth is what the hold of that sum in a sandbox is worth. -/
noncomputable def Tryd.pinned : Pinned := { name := "ytmeejnkpaiinaaadoor", sum := "61e051853d641b2376775b64d4a531fb39d4dfd56c119ef7d83ac090dc08ff38", checked := Tryd.checked }
namespace Rows
def none {H : Type} : Left H := { results := [], args := [] }

/- WHAT THE LISTED PACKAGE-LEVEL VARIABLES READ AS WHEN THE CALL BEGINS. Each datum BY PROGRAM (the guide's laid-datum.mjs) off the statement by which the dump's own 'gosem.cut.vars' lays the variable. In a bare row this is a premise. The card (YtmeejnkpaiinaaaDoorCards.lean) ties it to the program's text. -/
def laid_math_bits_deBruijn32tab {H : Type} : DataW H := .agg [.lit (.int .u8 0), .lit (.int .u8 1), .lit (.int .u8 28), .lit (.int .u8 2), .lit (.int .u8 29), .lit (.int .u8 14), .lit (.int .u8 24), .lit (.int .u8 3), .lit (.int .u8 30), .lit (.int .u8 22), .lit (.int .u8 20), .lit (.int .u8 15), .lit (.int .u8 25), .lit (.int .u8 17), .lit (.int .u8 4), .lit (.int .u8 8), .lit (.int .u8 31), .lit (.int .u8 27), .lit (.int .u8 13), .lit (.int .u8 23), .lit (.int .u8 21), .lit (.int .u8 19), .lit (.int .u8 16), .lit (.int .u8 7), .lit (.int .u8 26), .lit (.int .u8 12), .lit (.int .u8 18), .lit (.int .u8 6), .lit (.int .u8 11), .lit (.int .u8 5), .lit (.int .u8 10), .lit (.int .u8 9)]
def laid_loop_example_golayoctads_impl_digitProducts {H : Type} : DataW H := .agg [.agg [.lit (.int .u8 0), .lit (.int .u8 0), .lit (.int .u8 0), .lit (.int .u8 0)], .agg [.lit (.int .u8 0), .lit (.int .u8 1), .lit (.int .u8 2), .lit (.int .u8 3)], .agg [.lit (.int .u8 0), .lit (.int .u8 2), .lit (.int .u8 3), .lit (.int .u8 1)], .agg [.lit (.int .u8 0), .lit (.int .u8 3), .lit (.int .u8 1), .lit (.int .u8 2)]]
def laid_loop_example_golayoctads_impl_bareColumns {H : Type} : DataW H := .agg [.agg [.lit (.int .u32 0), .lit (.int .u32 12), .lit (.int .u32 10), .lit (.int .u32 6)], .agg [.lit (.int .u32 14), .lit (.int .u32 2), .lit (.int .u32 4), .lit (.int .u32 8)]]

/-- 'laws.FnExactLatticeIn': WHATEVER THE INPUT: true; the input reads as it did. -/
def fnExactLatticeInSpec : ChangeSpec := { name := "fnExactLatticeIn", vars := ["loop.example/golayoctads/impl.bareColumns", "loop.example/golayoctads/impl.digitProducts"], fn := fun _ => fun
  | [d, g1, g2] => { results := [.lit (.bool true)], args := [d], vars := [g1, g2] }
  | _ => none }
def fnExactLatticeInRow : OpenClaim := { program := "ytmeejnkpaiinaaadoor", sum := "61e051853d641b2376775b64d4a531fb39d4dfd56c119ef7d83ac090dc08ff38", func := "loop.example/golayoctads/laws.FnExactLatticeIn", spec := "fnExactLatticeIn", unfollowed := true, recurses := true, named := ["math/bits.deBruijn32tab", "loop.example/golayoctads/impl.bareColumns", "loop.example/golayoctads/impl.digitProducts"], apart := false, laid := [("math/bits.deBruijn32tab", laid_math_bits_deBruijn32tab), ("loop.example/golayoctads/impl.digitProducts", laid_loop_example_golayoctads_impl_digitProducts), ("loop.example/golayoctads/impl.bareColumns", laid_loop_example_golayoctads_impl_bareColumns)] }
def FnExactLatticeInSaid : Prop := fnExactLatticeInRow.holds Tryd.pinned (OpenSpec.ofChange fnExactLatticeInSpec)

/-- ITS FALSE NEIGHBOUR: 'it returns false'. Refute it at one input. -/
def fnExactLatticeInWrong : ChangeSpec := { name := "fnExactLatticeIn", vars := ["loop.example/golayoctads/impl.bareColumns", "loop.example/golayoctads/impl.digitProducts"], fn := fun _ => fun
  | [d, g1, g2] => { results := [.lit (.bool false)], args := [d], vars := [g1, g2] }
  | _ => none }
def FnExactLatticeInWrongFalsely : Prop := fnExactLatticeInRow.holds Tryd.pinned (OpenSpec.ofChange fnExactLatticeInWrong)

/-- 'laws.FnExactLatticeAdd': WHATEVER THE INPUT: true; the input reads as it did. -/
def fnExactLatticeAddSpec : ChangeSpec := { name := "fnExactLatticeAdd", vars := ["loop.example/golayoctads/impl.bareColumns", "loop.example/golayoctads/impl.digitProducts"], fn := fun _ => fun
  | [d1, d2, g1, g2] => { results := [.lit (.bool true)], args := [d1, d2], vars := [g1, g2] }
  | _ => none }
def fnExactLatticeAddRow : OpenClaim := { program := "ytmeejnkpaiinaaadoor", sum := "61e051853d641b2376775b64d4a531fb39d4dfd56c119ef7d83ac090dc08ff38", func := "loop.example/golayoctads/laws.FnExactLatticeAdd", spec := "fnExactLatticeAdd", unfollowed := true, recurses := true, named := ["math/bits.deBruijn32tab", "loop.example/golayoctads/impl.bareColumns", "loop.example/golayoctads/impl.digitProducts"], apart := false, laid := [("math/bits.deBruijn32tab", laid_math_bits_deBruijn32tab), ("loop.example/golayoctads/impl.digitProducts", laid_loop_example_golayoctads_impl_digitProducts), ("loop.example/golayoctads/impl.bareColumns", laid_loop_example_golayoctads_impl_bareColumns)] }
def FnExactLatticeAddSaid : Prop := fnExactLatticeAddRow.holds Tryd.pinned (OpenSpec.ofChange fnExactLatticeAddSpec)

/-- ITS FALSE NEIGHBOUR: 'it returns false'. Refute it at one input. -/
def fnExactLatticeAddWrong : ChangeSpec := { name := "fnExactLatticeAdd", vars := ["loop.example/golayoctads/impl.bareColumns", "loop.example/golayoctads/impl.digitProducts"], fn := fun _ => fun
  | [d1, d2, g1, g2] => { results := [.lit (.bool false)], args := [d1, d2], vars := [g1, g2] }
  | _ => none }
def FnExactLatticeAddWrongFalsely : Prop := fnExactLatticeAddRow.holds Tryd.pinned (OpenSpec.ofChange fnExactLatticeAddWrong)

/-- 'laws.FnExactLatticeFlip': WHATEVER THE INPUT: true; the input reads as it did. -/
def fnExactLatticeFlipSpec : ChangeSpec := { name := "fnExactLatticeFlip", fn := fun _ => fun
  | [d1, d2] => { results := [.lit (.bool true)], args := [d1, d2] }
  | _ => none }
def fnExactLatticeFlipRow : OpenClaim := { program := "ytmeejnkpaiinaaadoor", sum := "61e051853d641b2376775b64d4a531fb39d4dfd56c119ef7d83ac090dc08ff38", func := "loop.example/golayoctads/laws.FnExactLatticeFlip", spec := "fnExactLatticeFlip", unfollowed := true, recurses := true, named := ["math/bits.deBruijn32tab"], apart := false, laid := [("math/bits.deBruijn32tab", laid_math_bits_deBruijn32tab)] }
def FnExactLatticeFlipSaid : Prop := fnExactLatticeFlipRow.holds Tryd.pinned (OpenSpec.ofChange fnExactLatticeFlipSpec)

/-- ITS FALSE NEIGHBOUR: 'it returns false'. Refute it at one input. -/
def fnExactLatticeFlipWrong : ChangeSpec := { name := "fnExactLatticeFlip", fn := fun _ => fun
  | [d1, d2] => { results := [.lit (.bool false)], args := [d1, d2] }
  | _ => none }
def FnExactLatticeFlipWrongFalsely : Prop := fnExactLatticeFlipRow.holds Tryd.pinned (OpenSpec.ofChange fnExactLatticeFlipWrong)

/-- 'laws.FnExactLatticeOctad': WHATEVER THE INPUT: true; the input reads as it did. -/
def fnExactLatticeOctadSpec : ChangeSpec := { name := "fnExactLatticeOctad", vars := ["loop.example/golayoctads/impl.bareColumns", "loop.example/golayoctads/impl.digitProducts"], fn := fun _ => fun
  | [d1, d2, g1, g2] => { results := [.lit (.bool true)], args := [d1, d2], vars := [g1, g2] }
  | _ => none }
def fnExactLatticeOctadRow : OpenClaim := { program := "ytmeejnkpaiinaaadoor", sum := "61e051853d641b2376775b64d4a531fb39d4dfd56c119ef7d83ac090dc08ff38", func := "loop.example/golayoctads/laws.FnExactLatticeOctad", spec := "fnExactLatticeOctad", unfollowed := true, recurses := true, named := ["math/bits.deBruijn32tab", "loop.example/golayoctads/impl.bareColumns", "loop.example/golayoctads/impl.digitProducts"], apart := false, laid := [("math/bits.deBruijn32tab", laid_math_bits_deBruijn32tab), ("loop.example/golayoctads/impl.digitProducts", laid_loop_example_golayoctads_impl_digitProducts), ("loop.example/golayoctads/impl.bareColumns", laid_loop_example_golayoctads_impl_bareColumns)] }
def FnExactLatticeOctadSaid : Prop := fnExactLatticeOctadRow.holds Tryd.pinned (OpenSpec.ofChange fnExactLatticeOctadSpec)

/-- ITS FALSE NEIGHBOUR: 'it returns false'. Refute it at one input. -/
def fnExactLatticeOctadWrong : ChangeSpec := { name := "fnExactLatticeOctad", vars := ["loop.example/golayoctads/impl.bareColumns", "loop.example/golayoctads/impl.digitProducts"], fn := fun _ => fun
  | [d1, d2, g1, g2] => { results := [.lit (.bool false)], args := [d1, d2], vars := [g1, g2] }
  | _ => none }
def FnExactLatticeOctadWrongFalsely : Prop := fnExactLatticeOctadRow.holds Tryd.pinned (OpenSpec.ofChange fnExactLatticeOctadWrong)

/-- 'laws.FnExactLatticeThree': WHATEVER THE INPUT: true; the input reads as it did. -/
def fnExactLatticeThreeSpec : ChangeSpec := { name := "fnExactLatticeThree", vars := ["loop.example/golayoctads/impl.bareColumns", "loop.example/golayoctads/impl.digitProducts"], fn := fun _ => fun
  | [d1, d2, g1, g2] => { results := [.lit (.bool true)], args := [d1, d2], vars := [g1, g2] }
  | _ => none }
def fnExactLatticeThreeRow : OpenClaim := { program := "ytmeejnkpaiinaaadoor", sum := "61e051853d641b2376775b64d4a531fb39d4dfd56c119ef7d83ac090dc08ff38", func := "loop.example/golayoctads/laws.FnExactLatticeThree", spec := "fnExactLatticeThree", unfollowed := true, recurses := true, named := ["math/bits.deBruijn32tab", "loop.example/golayoctads/impl.bareColumns", "loop.example/golayoctads/impl.digitProducts"], apart := false, laid := [("math/bits.deBruijn32tab", laid_math_bits_deBruijn32tab), ("loop.example/golayoctads/impl.digitProducts", laid_loop_example_golayoctads_impl_digitProducts), ("loop.example/golayoctads/impl.bareColumns", laid_loop_example_golayoctads_impl_bareColumns)] }
def FnExactLatticeThreeSaid : Prop := fnExactLatticeThreeRow.holds Tryd.pinned (OpenSpec.ofChange fnExactLatticeThreeSpec)

/-- ITS FALSE NEIGHBOUR: 'it returns false'. Refute it at one input. -/
def fnExactLatticeThreeWrong : ChangeSpec := { name := "fnExactLatticeThree", vars := ["loop.example/golayoctads/impl.bareColumns", "loop.example/golayoctads/impl.digitProducts"], fn := fun _ => fun
  | [d1, d2, g1, g2] => { results := [.lit (.bool false)], args := [d1, d2], vars := [g1, g2] }
  | _ => none }
def FnExactLatticeThreeWrongFalsely : Prop := fnExactLatticeThreeRow.holds Tryd.pinned (OpenSpec.ofChange fnExactLatticeThreeWrong)

/-- 'laws.FnExactLatticeFour': WHATEVER THE INPUT: true; the input reads as it did. -/
def fnExactLatticeFourSpec : ChangeSpec := { name := "fnExactLatticeFour", fn := fun _ => fun
  | [d1, d2, d3, d4] => { results := [.lit (.bool true)], args := [d1, d2, d3, d4] }
  | _ => none }
def fnExactLatticeFourRow : OpenClaim := { program := "ytmeejnkpaiinaaadoor", sum := "61e051853d641b2376775b64d4a531fb39d4dfd56c119ef7d83ac090dc08ff38", func := "loop.example/golayoctads/laws.FnExactLatticeFour", spec := "fnExactLatticeFour", unfollowed := true, recurses := true, named := ["math/bits.deBruijn32tab"], apart := false, laid := [("math/bits.deBruijn32tab", laid_math_bits_deBruijn32tab)] }
def FnExactLatticeFourSaid : Prop := fnExactLatticeFourRow.holds Tryd.pinned (OpenSpec.ofChange fnExactLatticeFourSpec)

/-- ITS FALSE NEIGHBOUR: 'it returns false'. Refute it at one input. -/
def fnExactLatticeFourWrong : ChangeSpec := { name := "fnExactLatticeFour", fn := fun _ => fun
  | [d1, d2, d3, d4] => { results := [.lit (.bool false)], args := [d1, d2, d3, d4] }
  | _ => none }
def FnExactLatticeFourWrongFalsely : Prop := fnExactLatticeFourRow.holds Tryd.pinned (OpenSpec.ofChange fnExactLatticeFourWrong)

/- THE SECOND FORM. 'bulk': how many values and letters a reading holds, each counted each time it is reached (what is shared counts as often as it is met; a slice's spare places count too). A statement '..UptoSaid' is the law's where the arguments, and the package variables that the reading takes, are together of bulk at most 1048576: NARROWER than '..Said'. Prove '..Said' where nothing that the law and all that it calls make is longer than what came in: it says more and counts as full. Else prove '..UptoSaid'. A law counts once. -/
mutual
def uptoBulk {H : Type} : DataW H → Nat
  | .lit (.string bytes) => bytes.length + 1
  | .lit _ => 1
  | .nil => 1
  | .ptr d => uptoBulk d + 1
  | .slice elems spare => uptoBulkAll elems + uptoBulkAll spare + 1
  | .agg parts => uptoBulkAll parts + 1
  | .iface _ d => uptoBulk d + 1
  | .map entries => uptoBulkEntries entries + 1
  | .held _ => 1
def uptoBulkAll {H : Type} : List (DataW H) → Nat
  | [] => 0
  | d :: r => uptoBulk d + uptoBulkAll r
def uptoBulkEntries {H : Type} : List (Lit × DataW H) → Nat
  | [] => 0
  | x :: r => uptoBulkEntry x + uptoBulkEntries r
def uptoBulkEntry {H : Type} : Lit × DataW H → Nat
  | (.string bytes, d) => bytes.length + uptoBulk d + 1
  | (_, d) => uptoBulk d + 1
 end
def uptoSmall : (H : Type) → List (DataW H) → Bool := fun _ ds => decide (uptoBulkAll ds ≤ 1048576)
def OpenSpec.upto (s : _root_.Go.ChangeSpec) : _root_.Go.OpenSpec := { _root_.Go.OpenSpec.ofChange s with cond := some uptoSmall }

/-- 'laws.FnExactLatticeIn', WHERE WHAT IT READS IS OF BULK AT MOST 1048576: true; the input reads as it did. -/
def fnExactLatticeInUptoRow : OpenClaim := { program := "ytmeejnkpaiinaaadoor", sum := "61e051853d641b2376775b64d4a531fb39d4dfd56c119ef7d83ac090dc08ff38", func := "loop.example/golayoctads/laws.FnExactLatticeIn", spec := "fnExactLatticeIn", unfollowed := true, recurses := true, named := ["math/bits.deBruijn32tab", "loop.example/golayoctads/impl.bareColumns", "loop.example/golayoctads/impl.digitProducts"], apart := false, laid := [("math/bits.deBruijn32tab", laid_math_bits_deBruijn32tab), ("loop.example/golayoctads/impl.digitProducts", laid_loop_example_golayoctads_impl_digitProducts), ("loop.example/golayoctads/impl.bareColumns", laid_loop_example_golayoctads_impl_bareColumns)], narrowed := true }
def FnExactLatticeInUptoSaid : Prop := fnExactLatticeInUptoRow.holds Tryd.pinned (OpenSpec.upto fnExactLatticeInSpec)

/-- 'laws.FnExactLatticeAdd', WHERE WHAT IT READS IS OF BULK AT MOST 1048576: true; the input reads as it did. -/
def fnExactLatticeAddUptoRow : OpenClaim := { program := "ytmeejnkpaiinaaadoor", sum := "61e051853d641b2376775b64d4a531fb39d4dfd56c119ef7d83ac090dc08ff38", func := "loop.example/golayoctads/laws.FnExactLatticeAdd", spec := "fnExactLatticeAdd", unfollowed := true, recurses := true, named := ["math/bits.deBruijn32tab", "loop.example/golayoctads/impl.bareColumns", "loop.example/golayoctads/impl.digitProducts"], apart := false, laid := [("math/bits.deBruijn32tab", laid_math_bits_deBruijn32tab), ("loop.example/golayoctads/impl.digitProducts", laid_loop_example_golayoctads_impl_digitProducts), ("loop.example/golayoctads/impl.bareColumns", laid_loop_example_golayoctads_impl_bareColumns)], narrowed := true }
def FnExactLatticeAddUptoSaid : Prop := fnExactLatticeAddUptoRow.holds Tryd.pinned (OpenSpec.upto fnExactLatticeAddSpec)

/-- 'laws.FnExactLatticeFlip', WHERE WHAT IT READS IS OF BULK AT MOST 1048576: true; the input reads as it did. -/
def fnExactLatticeFlipUptoRow : OpenClaim := { program := "ytmeejnkpaiinaaadoor", sum := "61e051853d641b2376775b64d4a531fb39d4dfd56c119ef7d83ac090dc08ff38", func := "loop.example/golayoctads/laws.FnExactLatticeFlip", spec := "fnExactLatticeFlip", unfollowed := true, recurses := true, named := ["math/bits.deBruijn32tab"], apart := false, laid := [("math/bits.deBruijn32tab", laid_math_bits_deBruijn32tab)], narrowed := true }
def FnExactLatticeFlipUptoSaid : Prop := fnExactLatticeFlipUptoRow.holds Tryd.pinned (OpenSpec.upto fnExactLatticeFlipSpec)

/-- 'laws.FnExactLatticeOctad', WHERE WHAT IT READS IS OF BULK AT MOST 1048576: true; the input reads as it did. -/
def fnExactLatticeOctadUptoRow : OpenClaim := { program := "ytmeejnkpaiinaaadoor", sum := "61e051853d641b2376775b64d4a531fb39d4dfd56c119ef7d83ac090dc08ff38", func := "loop.example/golayoctads/laws.FnExactLatticeOctad", spec := "fnExactLatticeOctad", unfollowed := true, recurses := true, named := ["math/bits.deBruijn32tab", "loop.example/golayoctads/impl.bareColumns", "loop.example/golayoctads/impl.digitProducts"], apart := false, laid := [("math/bits.deBruijn32tab", laid_math_bits_deBruijn32tab), ("loop.example/golayoctads/impl.digitProducts", laid_loop_example_golayoctads_impl_digitProducts), ("loop.example/golayoctads/impl.bareColumns", laid_loop_example_golayoctads_impl_bareColumns)], narrowed := true }
def FnExactLatticeOctadUptoSaid : Prop := fnExactLatticeOctadUptoRow.holds Tryd.pinned (OpenSpec.upto fnExactLatticeOctadSpec)

/-- 'laws.FnExactLatticeThree', WHERE WHAT IT READS IS OF BULK AT MOST 1048576: true; the input reads as it did. -/
def fnExactLatticeThreeUptoRow : OpenClaim := { program := "ytmeejnkpaiinaaadoor", sum := "61e051853d641b2376775b64d4a531fb39d4dfd56c119ef7d83ac090dc08ff38", func := "loop.example/golayoctads/laws.FnExactLatticeThree", spec := "fnExactLatticeThree", unfollowed := true, recurses := true, named := ["math/bits.deBruijn32tab", "loop.example/golayoctads/impl.bareColumns", "loop.example/golayoctads/impl.digitProducts"], apart := false, laid := [("math/bits.deBruijn32tab", laid_math_bits_deBruijn32tab), ("loop.example/golayoctads/impl.digitProducts", laid_loop_example_golayoctads_impl_digitProducts), ("loop.example/golayoctads/impl.bareColumns", laid_loop_example_golayoctads_impl_bareColumns)], narrowed := true }
def FnExactLatticeThreeUptoSaid : Prop := fnExactLatticeThreeUptoRow.holds Tryd.pinned (OpenSpec.upto fnExactLatticeThreeSpec)

/-- 'laws.FnExactLatticeFour', WHERE WHAT IT READS IS OF BULK AT MOST 1048576: true; the input reads as it did. -/
def fnExactLatticeFourUptoRow : OpenClaim := { program := "ytmeejnkpaiinaaadoor", sum := "61e051853d641b2376775b64d4a531fb39d4dfd56c119ef7d83ac090dc08ff38", func := "loop.example/golayoctads/laws.FnExactLatticeFour", spec := "fnExactLatticeFour", unfollowed := true, recurses := true, named := ["math/bits.deBruijn32tab"], apart := false, laid := [("math/bits.deBruijn32tab", laid_math_bits_deBruijn32tab)], narrowed := true }
def FnExactLatticeFourUptoSaid : Prop := fnExactLatticeFourUptoRow.holds Tryd.pinned (OpenSpec.upto fnExactLatticeFourSpec)

end Rows
end Go.Proofs.YtmeejnkpaiinaaaDoor
