/-
  NARROWER THAN 'FOR EVERY INPUT', by the rows' own cells (each row's printed sentence says how): FnLattice: laid · FnLatticeAdd: laid · FnInner: laid · FnFlip: laid · FnOctadVector: laid · FnThree: laid · FnFourVector: laid.
  DERIVED. THE GIVEN ROWS OF THIS SEAT. 7 by the template 'for every input the law returns true; each argument reads behind the call as it read before'; 0 by the template 'total and deterministic' (their statements: YtmeejnkpaiinaabDoorTotals.lean).
  GIVEN WITH THE SEED: the statements are not yours to turn. If you find one false, say at which input.
  Laid BY PROGRAM, IN A SANDBOX (cutbox-rows.mjs): the forced cells as the released guide's own fill.sh prints them over the translation 66cce79a2cae30b8… (all of the seat's roots in one cut). By AI agents, Wed Nov 11 2026. No macro, syntax, notation, axiom, sorry.
-/
import Derived.Test.YtmeejnkpaiinaabDoorChecked
import GoSem.Claim
import GoSem.ClaimJoined
import GoSem.ClaimMapViews
import Derived.JoinedTies
import Derived.KernelRfl
namespace Go.Proofs.YtmeejnkpaiinaabDoor
/- THE CELL 'sum', in the pinned program and in every row, IS THE sha256 OF THE DUMP (.gsa) THAT YtmeejnkpaiinaabDoorProg.lean LOADS. Nothing in Lean hashes anything: it is a label: what it is worth is what the hold of that sum in a sandbox is worth. -/
noncomputable def Tryd.pinned : Pinned := { name := "ytmeejnkpaiinaabdoor", sum := "66cce79a2cae30b870a83a5bce2e4518bd19f15e98bb0944081398fd613c597d", checked := Tryd.checked }
namespace Rows
def none {H : Type} : Left H := { results := [], args := [] }

/- WHAT THE LISTED PACKAGE-LEVEL VARIABLES READ AS WHEN THE CALL BEGINS. Each datum BY PROGRAM (the guide's laid-datum.mjs) off the statement by which the dump's own 'gosem.cut.vars' lays the variable. In a bare row this is a premise. The card (YtmeejnkpaiinaabDoorCards.lean) ties it to the program's text. -/
def laid_math_bits_deBruijn32tab {H : Type} : DataW H := .agg [.lit (.int .u8 0), .lit (.int .u8 1), .lit (.int .u8 28), .lit (.int .u8 2), .lit (.int .u8 29), .lit (.int .u8 14), .lit (.int .u8 24), .lit (.int .u8 3), .lit (.int .u8 30), .lit (.int .u8 22), .lit (.int .u8 20), .lit (.int .u8 15), .lit (.int .u8 25), .lit (.int .u8 17), .lit (.int .u8 4), .lit (.int .u8 8), .lit (.int .u8 31), .lit (.int .u8 27), .lit (.int .u8 13), .lit (.int .u8 23), .lit (.int .u8 21), .lit (.int .u8 19), .lit (.int .u8 16), .lit (.int .u8 7), .lit (.int .u8 26), .lit (.int .u8 12), .lit (.int .u8 18), .lit (.int .u8 6), .lit (.int .u8 11), .lit (.int .u8 5), .lit (.int .u8 10), .lit (.int .u8 9)]
def laid_loop_example_golayoctads_impl_digitProducts {H : Type} : DataW H := .agg [.agg [.lit (.int .u8 0), .lit (.int .u8 0), .lit (.int .u8 0), .lit (.int .u8 0)], .agg [.lit (.int .u8 0), .lit (.int .u8 1), .lit (.int .u8 2), .lit (.int .u8 3)], .agg [.lit (.int .u8 0), .lit (.int .u8 2), .lit (.int .u8 3), .lit (.int .u8 1)], .agg [.lit (.int .u8 0), .lit (.int .u8 3), .lit (.int .u8 1), .lit (.int .u8 2)]]
def laid_loop_example_golayoctads_impl_bareColumns {H : Type} : DataW H := .agg [.agg [.lit (.int .u32 0), .lit (.int .u32 12), .lit (.int .u32 10), .lit (.int .u32 6)], .agg [.lit (.int .u32 14), .lit (.int .u32 2), .lit (.int .u32 4), .lit (.int .u32 8)]]

/-- 'laws.FnLattice': WHATEVER THE INPUT: true; the input reads as it did. -/
def fnLatticeSpec : ChangeSpec := { name := "fnLattice", vars := ["loop.example/golayoctads/impl.bareColumns", "loop.example/golayoctads/impl.digitProducts"], fn := fun _ => fun
  | [d, g1, g2] => { results := [.lit (.bool true)], args := [d], vars := [g1, g2] }
  | _ => none }
def fnLatticeRow : OpenClaim := { program := "ytmeejnkpaiinaabdoor", sum := "66cce79a2cae30b870a83a5bce2e4518bd19f15e98bb0944081398fd613c597d", func := "loop.example/golayoctads/laws.FnLattice", spec := "fnLattice", unfollowed := true, recurses := true, named := ["math/bits.deBruijn32tab", "loop.example/golayoctads/impl.bareColumns", "loop.example/golayoctads/impl.digitProducts"], apart := false, laid := [("math/bits.deBruijn32tab", laid_math_bits_deBruijn32tab), ("loop.example/golayoctads/impl.digitProducts", laid_loop_example_golayoctads_impl_digitProducts), ("loop.example/golayoctads/impl.bareColumns", laid_loop_example_golayoctads_impl_bareColumns)] }
def FnLatticeSaid : Prop := fnLatticeRow.holds Tryd.pinned (OpenSpec.ofChange fnLatticeSpec)

/-- ITS FALSE NEIGHBOUR: 'it returns false'. Refute it at one input. -/
def fnLatticeWrong : ChangeSpec := { name := "fnLattice", vars := ["loop.example/golayoctads/impl.bareColumns", "loop.example/golayoctads/impl.digitProducts"], fn := fun _ => fun
  | [d, g1, g2] => { results := [.lit (.bool false)], args := [d], vars := [g1, g2] }
  | _ => none }
def FnLatticeWrongFalsely : Prop := fnLatticeRow.holds Tryd.pinned (OpenSpec.ofChange fnLatticeWrong)

/-- 'laws.FnLatticeAdd': WHATEVER THE INPUT: true; the input reads as it did. -/
def fnLatticeAddSpec : ChangeSpec := { name := "fnLatticeAdd", vars := ["loop.example/golayoctads/impl.bareColumns", "loop.example/golayoctads/impl.digitProducts"], fn := fun _ => fun
  | [d, g1, g2] => { results := [.lit (.bool true)], args := [d], vars := [g1, g2] }
  | _ => none }
def fnLatticeAddRow : OpenClaim := { program := "ytmeejnkpaiinaabdoor", sum := "66cce79a2cae30b870a83a5bce2e4518bd19f15e98bb0944081398fd613c597d", func := "loop.example/golayoctads/laws.FnLatticeAdd", spec := "fnLatticeAdd", unfollowed := true, recurses := true, named := ["math/bits.deBruijn32tab", "loop.example/golayoctads/impl.bareColumns", "loop.example/golayoctads/impl.digitProducts"], apart := false, laid := [("math/bits.deBruijn32tab", laid_math_bits_deBruijn32tab), ("loop.example/golayoctads/impl.digitProducts", laid_loop_example_golayoctads_impl_digitProducts), ("loop.example/golayoctads/impl.bareColumns", laid_loop_example_golayoctads_impl_bareColumns)] }
def FnLatticeAddSaid : Prop := fnLatticeAddRow.holds Tryd.pinned (OpenSpec.ofChange fnLatticeAddSpec)

/-- ITS FALSE NEIGHBOUR: 'it returns false'. Refute it at one input. -/
def fnLatticeAddWrong : ChangeSpec := { name := "fnLatticeAdd", vars := ["loop.example/golayoctads/impl.bareColumns", "loop.example/golayoctads/impl.digitProducts"], fn := fun _ => fun
  | [d, g1, g2] => { results := [.lit (.bool false)], args := [d], vars := [g1, g2] }
  | _ => none }
def FnLatticeAddWrongFalsely : Prop := fnLatticeAddRow.holds Tryd.pinned (OpenSpec.ofChange fnLatticeAddWrong)

/-- 'laws.FnInner': WHATEVER THE INPUT: true; the input reads as it did. -/
def fnInnerSpec : ChangeSpec := { name := "fnInner", vars := ["loop.example/golayoctads/impl.bareColumns", "loop.example/golayoctads/impl.digitProducts"], fn := fun _ => fun
  | [d, g1, g2] => { results := [.lit (.bool true)], args := [d], vars := [g1, g2] }
  | _ => none }
def fnInnerRow : OpenClaim := { program := "ytmeejnkpaiinaabdoor", sum := "66cce79a2cae30b870a83a5bce2e4518bd19f15e98bb0944081398fd613c597d", func := "loop.example/golayoctads/laws.FnInner", spec := "fnInner", unfollowed := true, recurses := true, named := ["math/bits.deBruijn32tab", "loop.example/golayoctads/impl.bareColumns", "loop.example/golayoctads/impl.digitProducts"], apart := false, laid := [("math/bits.deBruijn32tab", laid_math_bits_deBruijn32tab), ("loop.example/golayoctads/impl.digitProducts", laid_loop_example_golayoctads_impl_digitProducts), ("loop.example/golayoctads/impl.bareColumns", laid_loop_example_golayoctads_impl_bareColumns)] }
def FnInnerSaid : Prop := fnInnerRow.holds Tryd.pinned (OpenSpec.ofChange fnInnerSpec)

/-- ITS FALSE NEIGHBOUR: 'it returns false'. Refute it at one input. -/
def fnInnerWrong : ChangeSpec := { name := "fnInner", vars := ["loop.example/golayoctads/impl.bareColumns", "loop.example/golayoctads/impl.digitProducts"], fn := fun _ => fun
  | [d, g1, g2] => { results := [.lit (.bool false)], args := [d], vars := [g1, g2] }
  | _ => none }
def FnInnerWrongFalsely : Prop := fnInnerRow.holds Tryd.pinned (OpenSpec.ofChange fnInnerWrong)

/-- 'laws.FnFlip': WHATEVER THE INPUT: true; the input reads as it did. -/
def fnFlipSpec : ChangeSpec := { name := "fnFlip", vars := ["loop.example/golayoctads/impl.bareColumns", "loop.example/golayoctads/impl.digitProducts"], fn := fun _ => fun
  | [d, g1, g2] => { results := [.lit (.bool true)], args := [d], vars := [g1, g2] }
  | _ => none }
def fnFlipRow : OpenClaim := { program := "ytmeejnkpaiinaabdoor", sum := "66cce79a2cae30b870a83a5bce2e4518bd19f15e98bb0944081398fd613c597d", func := "loop.example/golayoctads/laws.FnFlip", spec := "fnFlip", unfollowed := true, recurses := true, named := ["math/bits.deBruijn32tab", "loop.example/golayoctads/impl.bareColumns", "loop.example/golayoctads/impl.digitProducts"], apart := false, laid := [("math/bits.deBruijn32tab", laid_math_bits_deBruijn32tab), ("loop.example/golayoctads/impl.digitProducts", laid_loop_example_golayoctads_impl_digitProducts), ("loop.example/golayoctads/impl.bareColumns", laid_loop_example_golayoctads_impl_bareColumns)] }
def FnFlipSaid : Prop := fnFlipRow.holds Tryd.pinned (OpenSpec.ofChange fnFlipSpec)

/-- ITS FALSE NEIGHBOUR: 'it returns false'. Refute it at one input. -/
def fnFlipWrong : ChangeSpec := { name := "fnFlip", vars := ["loop.example/golayoctads/impl.bareColumns", "loop.example/golayoctads/impl.digitProducts"], fn := fun _ => fun
  | [d, g1, g2] => { results := [.lit (.bool false)], args := [d], vars := [g1, g2] }
  | _ => none }
def FnFlipWrongFalsely : Prop := fnFlipRow.holds Tryd.pinned (OpenSpec.ofChange fnFlipWrong)

/-- 'laws.FnOctadVector': WHATEVER THE INPUT: true; the input reads as it did. -/
def fnOctadVectorSpec : ChangeSpec := { name := "fnOctadVector", vars := ["loop.example/golayoctads/impl.bareColumns", "loop.example/golayoctads/impl.digitProducts"], fn := fun _ => fun
  | [d, g1, g2] => { results := [.lit (.bool true)], args := [d], vars := [g1, g2] }
  | _ => none }
def fnOctadVectorRow : OpenClaim := { program := "ytmeejnkpaiinaabdoor", sum := "66cce79a2cae30b870a83a5bce2e4518bd19f15e98bb0944081398fd613c597d", func := "loop.example/golayoctads/laws.FnOctadVector", spec := "fnOctadVector", unfollowed := true, recurses := true, named := ["math/bits.deBruijn32tab", "loop.example/golayoctads/impl.bareColumns", "loop.example/golayoctads/impl.digitProducts"], apart := false, laid := [("math/bits.deBruijn32tab", laid_math_bits_deBruijn32tab), ("loop.example/golayoctads/impl.digitProducts", laid_loop_example_golayoctads_impl_digitProducts), ("loop.example/golayoctads/impl.bareColumns", laid_loop_example_golayoctads_impl_bareColumns)] }
def FnOctadVectorSaid : Prop := fnOctadVectorRow.holds Tryd.pinned (OpenSpec.ofChange fnOctadVectorSpec)

/-- ITS FALSE NEIGHBOUR: 'it returns false'. Refute it at one input. -/
def fnOctadVectorWrong : ChangeSpec := { name := "fnOctadVector", vars := ["loop.example/golayoctads/impl.bareColumns", "loop.example/golayoctads/impl.digitProducts"], fn := fun _ => fun
  | [d, g1, g2] => { results := [.lit (.bool false)], args := [d], vars := [g1, g2] }
  | _ => none }
def FnOctadVectorWrongFalsely : Prop := fnOctadVectorRow.holds Tryd.pinned (OpenSpec.ofChange fnOctadVectorWrong)

/-- 'laws.FnThree': WHATEVER THE INPUT: true; the input reads as it did. -/
def fnThreeSpec : ChangeSpec := { name := "fnThree", vars := ["loop.example/golayoctads/impl.bareColumns", "loop.example/golayoctads/impl.digitProducts"], fn := fun _ => fun
  | [d, g1, g2] => { results := [.lit (.bool true)], args := [d], vars := [g1, g2] }
  | _ => none }
def fnThreeRow : OpenClaim := { program := "ytmeejnkpaiinaabdoor", sum := "66cce79a2cae30b870a83a5bce2e4518bd19f15e98bb0944081398fd613c597d", func := "loop.example/golayoctads/laws.FnThree", spec := "fnThree", unfollowed := true, recurses := true, named := ["math/bits.deBruijn32tab", "loop.example/golayoctads/impl.bareColumns", "loop.example/golayoctads/impl.digitProducts"], apart := false, laid := [("math/bits.deBruijn32tab", laid_math_bits_deBruijn32tab), ("loop.example/golayoctads/impl.digitProducts", laid_loop_example_golayoctads_impl_digitProducts), ("loop.example/golayoctads/impl.bareColumns", laid_loop_example_golayoctads_impl_bareColumns)] }
def FnThreeSaid : Prop := fnThreeRow.holds Tryd.pinned (OpenSpec.ofChange fnThreeSpec)

/-- ITS FALSE NEIGHBOUR: 'it returns false'. Refute it at one input. -/
def fnThreeWrong : ChangeSpec := { name := "fnThree", vars := ["loop.example/golayoctads/impl.bareColumns", "loop.example/golayoctads/impl.digitProducts"], fn := fun _ => fun
  | [d, g1, g2] => { results := [.lit (.bool false)], args := [d], vars := [g1, g2] }
  | _ => none }
def FnThreeWrongFalsely : Prop := fnThreeRow.holds Tryd.pinned (OpenSpec.ofChange fnThreeWrong)

/-- 'laws.FnFourVector': WHATEVER THE INPUT: true; the input reads as it did. -/
def fnFourVectorSpec : ChangeSpec := { name := "fnFourVector", vars := ["loop.example/golayoctads/impl.bareColumns", "loop.example/golayoctads/impl.digitProducts"], fn := fun _ => fun
  | [d, g1, g2] => { results := [.lit (.bool true)], args := [d], vars := [g1, g2] }
  | _ => none }
def fnFourVectorRow : OpenClaim := { program := "ytmeejnkpaiinaabdoor", sum := "66cce79a2cae30b870a83a5bce2e4518bd19f15e98bb0944081398fd613c597d", func := "loop.example/golayoctads/laws.FnFourVector", spec := "fnFourVector", unfollowed := true, recurses := true, named := ["math/bits.deBruijn32tab", "loop.example/golayoctads/impl.bareColumns", "loop.example/golayoctads/impl.digitProducts"], apart := false, laid := [("math/bits.deBruijn32tab", laid_math_bits_deBruijn32tab), ("loop.example/golayoctads/impl.digitProducts", laid_loop_example_golayoctads_impl_digitProducts), ("loop.example/golayoctads/impl.bareColumns", laid_loop_example_golayoctads_impl_bareColumns)] }
def FnFourVectorSaid : Prop := fnFourVectorRow.holds Tryd.pinned (OpenSpec.ofChange fnFourVectorSpec)

/-- ITS FALSE NEIGHBOUR: 'it returns false'. Refute it at one input. -/
def fnFourVectorWrong : ChangeSpec := { name := "fnFourVector", vars := ["loop.example/golayoctads/impl.bareColumns", "loop.example/golayoctads/impl.digitProducts"], fn := fun _ => fun
  | [d, g1, g2] => { results := [.lit (.bool false)], args := [d], vars := [g1, g2] }
  | _ => none }
def FnFourVectorWrongFalsely : Prop := fnFourVectorRow.holds Tryd.pinned (OpenSpec.ofChange fnFourVectorWrong)

/- THE SECOND FORM. 'bulk': how many values and letters a reading holds, each counted each time it is reached (what is shared counts as often as it is met; a slice's spare places count too). A statement '..UptoSaid' is the law's where the arguments, and the package variables that the reading takes, are together of bulk at most 1048576: NARROWER than '..Said'. Prove '..Said' where nothing that the law and all that it calls make is longer than what came in: it says more and counts as full. Else prove '..UptoSaid'. A law counts once. -/
mutual
def uptoBulk {H : Type} : DataW H → Nat
  | .lit (.string bytes) => bytes.length + 1
  | .lit _ => 1
  | .nil => 1
  | .ptr d => uptoBulk d + 1
  | .slice elems spare => uptoBulkAll elems + uptoBulkAll spare + 1
  | .agg parts => uptoBulkAll parts + 1
  | .iface _ d => uptoBulk d + 1
  | .map entries => uptoBulkEntries entries + 1
  | .held _ => 1
def uptoBulkAll {H : Type} : List (DataW H) → Nat
  | [] => 0
  | d :: r => uptoBulk d + uptoBulkAll r
def uptoBulkEntries {H : Type} : List (Lit × DataW H) → Nat
  | [] => 0
  | x :: r => uptoBulkEntry x + uptoBulkEntries r
def uptoBulkEntry {H : Type} : Lit × DataW H → Nat
  | (.string bytes, d) => bytes.length + uptoBulk d + 1
  | (_, d) => uptoBulk d + 1
 end
def uptoSmall : (H : Type) → List (DataW H) → Bool := fun _ ds => decide (uptoBulkAll ds ≤ 1048576)
def OpenSpec.upto (s : _root_.Go.ChangeSpec) : _root_.Go.OpenSpec := { _root_.Go.OpenSpec.ofChange s with cond := some uptoSmall }

/-- 'laws.FnLattice', WHERE WHAT IT READS IS OF BULK AT MOST 1048576: true; the input reads as it did. -/
def fnLatticeUptoRow : OpenClaim := { program := "ytmeejnkpaiinaabdoor", sum := "66cce79a2cae30b870a83a5bce2e4518bd19f15e98bb0944081398fd613c597d", func := "loop.example/golayoctads/laws.FnLattice", spec := "fnLattice", unfollowed := true, recurses := true, named := ["math/bits.deBruijn32tab", "loop.example/golayoctads/impl.bareColumns", "loop.example/golayoctads/impl.digitProducts"], apart := false, laid := [("math/bits.deBruijn32tab", laid_math_bits_deBruijn32tab), ("loop.example/golayoctads/impl.digitProducts", laid_loop_example_golayoctads_impl_digitProducts), ("loop.example/golayoctads/impl.bareColumns", laid_loop_example_golayoctads_impl_bareColumns)], narrowed := true }
def FnLatticeUptoSaid : Prop := fnLatticeUptoRow.holds Tryd.pinned (OpenSpec.upto fnLatticeSpec)

/-- 'laws.FnLatticeAdd', WHERE WHAT IT READS IS OF BULK AT MOST 1048576: true; the input reads as it did. -/
def fnLatticeAddUptoRow : OpenClaim := { program := "ytmeejnkpaiinaabdoor", sum := "66cce79a2cae30b870a83a5bce2e4518bd19f15e98bb0944081398fd613c597d", func := "loop.example/golayoctads/laws.FnLatticeAdd", spec := "fnLatticeAdd", unfollowed := true, recurses := true, named := ["math/bits.deBruijn32tab", "loop.example/golayoctads/impl.bareColumns", "loop.example/golayoctads/impl.digitProducts"], apart := false, laid := [("math/bits.deBruijn32tab", laid_math_bits_deBruijn32tab), ("loop.example/golayoctads/impl.digitProducts", laid_loop_example_golayoctads_impl_digitProducts), ("loop.example/golayoctads/impl.bareColumns", laid_loop_example_golayoctads_impl_bareColumns)], narrowed := true }
def FnLatticeAddUptoSaid : Prop := fnLatticeAddUptoRow.holds Tryd.pinned (OpenSpec.upto fnLatticeAddSpec)

/-- 'laws.FnInner', WHERE WHAT IT READS IS OF BULK AT MOST 1048576: true; the input reads as it did. -/
def fnInnerUptoRow : OpenClaim := { program := "ytmeejnkpaiinaabdoor", sum := "66cce79a2cae30b870a83a5bce2e4518bd19f15e98bb0944081398fd613c597d", func := "loop.example/golayoctads/laws.FnInner", spec := "fnInner", unfollowed := true, recurses := true, named := ["math/bits.deBruijn32tab", "loop.example/golayoctads/impl.bareColumns", "loop.example/golayoctads/impl.digitProducts"], apart := false, laid := [("math/bits.deBruijn32tab", laid_math_bits_deBruijn32tab), ("loop.example/golayoctads/impl.digitProducts", laid_loop_example_golayoctads_impl_digitProducts), ("loop.example/golayoctads/impl.bareColumns", laid_loop_example_golayoctads_impl_bareColumns)], narrowed := true }
def FnInnerUptoSaid : Prop := fnInnerUptoRow.holds Tryd.pinned (OpenSpec.upto fnInnerSpec)

/-- 'laws.FnFlip', WHERE WHAT IT READS IS OF BULK AT MOST 1048576: true; the input reads as it did. -/
def fnFlipUptoRow : OpenClaim := { program := "ytmeejnkpaiinaabdoor", sum := "66cce79a2cae30b870a83a5bce2e4518bd19f15e98bb0944081398fd613c597d", func := "loop.example/golayoctads/laws.FnFlip", spec := "fnFlip", unfollowed := true, recurses := true, named := ["math/bits.deBruijn32tab", "loop.example/golayoctads/impl.bareColumns", "loop.example/golayoctads/impl.digitProducts"], apart := false, laid := [("math/bits.deBruijn32tab", laid_math_bits_deBruijn32tab), ("loop.example/golayoctads/impl.digitProducts", laid_loop_example_golayoctads_impl_digitProducts), ("loop.example/golayoctads/impl.bareColumns", laid_loop_example_golayoctads_impl_bareColumns)], narrowed := true }
def FnFlipUptoSaid : Prop := fnFlipUptoRow.holds Tryd.pinned (OpenSpec.upto fnFlipSpec)

/-- 'laws.FnOctadVector', WHERE WHAT IT READS IS OF BULK AT MOST 1048576: true; the input reads as it did. -/
def fnOctadVectorUptoRow : OpenClaim := { program := "ytmeejnkpaiinaabdoor", sum := "66cce79a2cae30b870a83a5bce2e4518bd19f15e98bb0944081398fd613c597d", func := "loop.example/golayoctads/laws.FnOctadVector", spec := "fnOctadVector", unfollowed := true, recurses := true, named := ["math/bits.deBruijn32tab", "loop.example/golayoctads/impl.bareColumns", "loop.example/golayoctads/impl.digitProducts"], apart := false, laid := [("math/bits.deBruijn32tab", laid_math_bits_deBruijn32tab), ("loop.example/golayoctads/impl.digitProducts", laid_loop_example_golayoctads_impl_digitProducts), ("loop.example/golayoctads/impl.bareColumns", laid_loop_example_golayoctads_impl_bareColumns)], narrowed := true }
def FnOctadVectorUptoSaid : Prop := fnOctadVectorUptoRow.holds Tryd.pinned (OpenSpec.upto fnOctadVectorSpec)

/-- 'laws.FnThree', WHERE WHAT IT READS IS OF BULK AT MOST 1048576: true; the input reads as it did. -/
def fnThreeUptoRow : OpenClaim := { program := "ytmeejnkpaiinaabdoor", sum := "66cce79a2cae30b870a83a5bce2e4518bd19f15e98bb0944081398fd613c597d", func := "loop.example/golayoctads/laws.FnThree", spec := "fnThree", unfollowed := true, recurses := true, named := ["math/bits.deBruijn32tab", "loop.example/golayoctads/impl.bareColumns", "loop.example/golayoctads/impl.digitProducts"], apart := false, laid := [("math/bits.deBruijn32tab", laid_math_bits_deBruijn32tab), ("loop.example/golayoctads/impl.digitProducts", laid_loop_example_golayoctads_impl_digitProducts), ("loop.example/golayoctads/impl.bareColumns", laid_loop_example_golayoctads_impl_bareColumns)], narrowed := true }
def FnThreeUptoSaid : Prop := fnThreeUptoRow.holds Tryd.pinned (OpenSpec.upto fnThreeSpec)

/-- 'laws.FnFourVector', WHERE WHAT IT READS IS OF BULK AT MOST 1048576: true; the input reads as it did. -/
def fnFourVectorUptoRow : OpenClaim := { program := "ytmeejnkpaiinaabdoor", sum := "66cce79a2cae30b870a83a5bce2e4518bd19f15e98bb0944081398fd613c597d", func := "loop.example/golayoctads/laws.FnFourVector", spec := "fnFourVector", unfollowed := true, recurses := true, named := ["math/bits.deBruijn32tab", "loop.example/golayoctads/impl.bareColumns", "loop.example/golayoctads/impl.digitProducts"], apart := false, laid := [("math/bits.deBruijn32tab", laid_math_bits_deBruijn32tab), ("loop.example/golayoctads/impl.digitProducts", laid_loop_example_golayoctads_impl_digitProducts), ("loop.example/golayoctads/impl.bareColumns", laid_loop_example_golayoctads_impl_bareColumns)], narrowed := true }
def FnFourVectorUptoSaid : Prop := fnFourVectorUptoRow.holds Tryd.pinned (OpenSpec.upto fnFourVectorSpec)

end Rows
end Go.Proofs.YtmeejnkpaiinaabDoor
