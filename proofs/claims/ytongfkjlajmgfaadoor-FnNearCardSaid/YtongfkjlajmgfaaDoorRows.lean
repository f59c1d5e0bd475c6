/-
  NARROWER THAN 'FOR EVERY INPUT', by the rows' own cells (each row's printed sentence says how): FnFar: laid · FnNear: laid · FnMend: laid · FnMended: laid · FnExactCodeFar: laid · FnExactCodeNear: laid · FnExactCodeMend: laid · FnExactOctadIn: laid · FnExactOctadPair: laid.
  DERIVED. THE GIVEN ROWS OF THIS SEAT. 9 by the template 'for every input the law returns true; each argument reads behind the call as it read before'; 0 by the template 'total and deterministic' (their statements: YtongfkjlajmgfaaDoorTotals.lean).
  GIVEN WITH THE SEED: the statements are not yours to turn. If you find one false, say at which input.
  Laid BY PROGRAM, IN A SANDBOX (cutbox-rows.mjs): the forced cells as the released guide's own fill.sh prints them over the translation b29c1f5e6ee9a904… (all of the seat's roots in one cut). By AI agents, Wed Nov 11 2026. No macro, syntax, notation, axiom, sorry.
-/
import Derived.Test.YtongfkjlajmgfaaDoorChecked
import GoSem.Claim
import GoSem.ClaimJoined
import GoSem.ClaimMapViews
import Derived.JoinedTies
import Derived.KernelRfl
namespace Go.Proofs.YtongfkjlajmgfaaDoor
/- THE CELL 'sum', in the pinned program and in every row, IS THE sha256 OF THE DUMP (.gsa) THAT YtongfkjlajmgfaaDoorProg.lean LOADS. Nothing in Lean hashes anything: it is a label: what it is worth is what the hold of that sum in a sandbox is worth. -/
noncomputable def Tryd.pinned : Pinned := { name := "ytongfkjlajmgfaadoor", sum := "b29c1f5e6ee9a9044247520a4a8a9f4721f59f994e78ed85784c0e2b92b4423a", checked := Tryd.checked }
namespace Rows
def none {H : Type} : Left H := { results := [], args := [] }

/- WHAT THE LISTED PACKAGE-LEVEL VARIABLES READ AS WHEN THE CALL BEGINS. Each datum BY PROGRAM (the guide's laid-datum.mjs) off the statement by which the dump's own 'gosem.cut.vars' lays the variable. In a bare row this is a premise. The card (YtongfkjlajmgfaaDoorCards.lean) ties it to the program's text. -/
def laid_math_bits_deBruijn32tab {H : Type} : DataW H := .agg [.lit (.int .u8 0), .lit (.int .u8 1), .lit (.int .u8 28), .lit (.int .u8 2), .lit (.int .u8 29), .lit (.int .u8 14), .lit (.int .u8 24), .lit (.int .u8 3), .lit (.int .u8 30), .lit (.int .u8 22), .lit (.int .u8 20), .lit (.int .u8 15), .lit (.int .u8 25), .lit (.int .u8 17), .lit (.int .u8 4), .lit (.int .u8 8), .lit (.int .u8 31), .lit (.int .u8 27), .lit (.int .u8 13), .lit (.int .u8 23), .lit (.int .u8 21), .lit (.int .u8 19), .lit (.int .u8 16), .lit (.int .u8 7), .lit (.int .u8 26), .lit (.int .u8 12), .lit (.int .u8 18), .lit (.int .u8 6), .lit (.int .u8 11), .lit (.int .u8 5), .lit (.int .u8 10), .lit (.int .u8 9)]
def laid_loop_example_golayoctads_impl_digitProducts {H : Type} : DataW H := .agg [.agg [.lit (.int .u8 0), .lit (.int .u8 0), .lit (.int .u8 0), .lit (.int .u8 0)], .agg [.lit (.int .u8 0), .lit (.int .u8 1), .lit (.int .u8 2), .lit (.int .u8 3)], .agg [.lit (.int .u8 0), .lit (.int .u8 2), .lit (.int .u8 3), .lit (.int .u8 1)], .agg [.lit (.int .u8 0), .lit (.int .u8 3), .lit (.int .u8 1), .lit (.int .u8 2)]]
def laid_loop_example_golayoctads_impl_bareColumns {H : Type} : DataW H := .agg [.agg [.lit (.int .u32 0), .lit (.int .u32 12), .lit (.int .u32 10), .lit (.int .u32 6)], .agg [.lit (.int .u32 14), .lit (.int .u32 2), .lit (.int .u32 4), .lit (.int .u32 8)]]

/-- 'laws.FnFar': WHATEVER THE INPUT: true; the input reads as it did. -/
def fnFarSpec : ChangeSpec := { name := "fnFar", vars := ["loop.example/golayoctads/impl.bareColumns", "loop.example/golayoctads/impl.digitProducts"], fn := fun _ => fun
  | [d, g1, g2] => { results := [.lit (.bool true)], args := [d], vars := [g1, g2] }
  | _ => none }
def fnFarRow : OpenClaim := { program := "ytongfkjlajmgfaadoor", sum := "b29c1f5e6ee9a9044247520a4a8a9f4721f59f994e78ed85784c0e2b92b4423a", func := "loop.example/golayoctads/laws.FnFar", spec := "fnFar", unfollowed := true, recurses := true, named := ["loop.example/golayoctads/impl.bareColumns", "loop.example/golayoctads/impl.digitProducts", "math/bits.deBruijn32tab"], apart := false, laid := [("math/bits.deBruijn32tab", laid_math_bits_deBruijn32tab), ("loop.example/golayoctads/impl.digitProducts", laid_loop_example_golayoctads_impl_digitProducts), ("loop.example/golayoctads/impl.bareColumns", laid_loop_example_golayoctads_impl_bareColumns)] }
def FnFarSaid : Prop := fnFarRow.holds Tryd.pinned (OpenSpec.ofChange fnFarSpec)

/-- ITS FALSE NEIGHBOUR: 'it returns false'. Refute it at one input. -/
def fnFarWrong : ChangeSpec := { name := "fnFar", vars := ["loop.example/golayoctads/impl.bareColumns", "loop.example/golayoctads/impl.digitProducts"], fn := fun _ => fun
  | [d, g1, g2] => { results := [.lit (.bool false)], args := [d], vars := [g1, g2] }
  | _ => none }
def FnFarWrongFalsely : Prop := fnFarRow.holds Tryd.pinned (OpenSpec.ofChange fnFarWrong)

/-- 'laws.FnNear': WHATEVER THE INPUT: true; the input reads as it did. -/
def fnNearSpec : ChangeSpec := { name := "fnNear", vars := ["loop.example/golayoctads/impl.bareColumns", "loop.example/golayoctads/impl.digitProducts"], fn := fun _ => fun
  | [d, g1, g2] => { results := [.lit (.bool true)], args := [d], vars := [g1, g2] }
  | _ => none }
def fnNearRow : OpenClaim := { program := "ytongfkjlajmgfaadoor", sum := "b29c1f5e6ee9a9044247520a4a8a9f4721f59f994e78ed85784c0e2b92b4423a", func := "loop.example/golayoctads/laws.FnNear", spec := "fnNear", unfollowed := true, recurses := true, named := ["loop.example/golayoctads/impl.bareColumns", "loop.example/golayoctads/impl.digitProducts", "math/bits.deBruijn32tab"], apart := false, laid := [("math/bits.deBruijn32tab", laid_math_bits_deBruijn32tab), ("loop.example/golayoctads/impl.digitProducts", laid_loop_example_golayoctads_impl_digitProducts), ("loop.example/golayoctads/impl.bareColumns", laid_loop_example_golayoctads_impl_bareColumns)] }
def FnNearSaid : Prop := fnNearRow.holds Tryd.pinned (OpenSpec.ofChange fnNearSpec)

/-- ITS FALSE NEIGHBOUR: 'it returns false'. Refute it at one input. -/
def fnNearWrong : ChangeSpec := { name := "fnNear", vars := ["loop.example/golayoctads/impl.bareColumns", "loop.example/golayoctads/impl.digitProducts"], fn := fun _ => fun
  | [d, g1, g2] => { results := [.lit (.bool false)], args := [d], vars := [g1, g2] }
  | _ => none }
def FnNearWrongFalsely : Prop := fnNearRow.holds Tryd.pinned (OpenSpec.ofChange fnNearWrong)

/-- 'laws.FnMend': WHATEVER THE INPUT: true; the input reads as it did. -/
def fnMendSpec : ChangeSpec := { name := "fnMend", vars := ["loop.example/golayoctads/impl.bareColumns", "loop.example/golayoctads/impl.digitProducts"], fn := fun _ => fun
  | [d, g1, g2] => { results := [.lit (.bool true)], args := [d], vars := [g1, g2] }
  | _ => none }
def fnMendRow : OpenClaim := { program := "ytongfkjlajmgfaadoor", sum := "b29c1f5e6ee9a9044247520a4a8a9f4721f59f994e78ed85784c0e2b92b4423a", func := "loop.example/golayoctads/laws.FnMend", spec := "fnMend", unfollowed := true, recurses := true, named := ["loop.example/golayoctads/impl.bareColumns", "loop.example/golayoctads/impl.digitProducts", "math/bits.deBruijn32tab"], apart := false, laid := [("math/bits.deBruijn32tab", laid_math_bits_deBruijn32tab), ("loop.example/golayoctads/impl.digitProducts", laid_loop_example_golayoctads_impl_digitProducts), ("loop.example/golayoctads/impl.bareColumns", laid_loop_example_golayoctads_impl_bareColumns)] }
def FnMendSaid : Prop := fnMendRow.holds Tryd.pinned (OpenSpec.ofChange fnMendSpec)

/-- ITS FALSE NEIGHBOUR: 'it returns false'. Refute it at one input. -/
def fnMendWrong : ChangeSpec := { name := "fnMend", vars := ["loop.example/golayoctads/impl.bareColumns", "loop.example/golayoctads/impl.digitProducts"], fn := fun _ => fun
  | [d, g1, g2] => { results := [.lit (.bool false)], args := [d], vars := [g1, g2] }
  | _ => none }
def FnMendWrongFalsely : Prop := fnMendRow.holds Tryd.pinned (OpenSpec.ofChange fnMendWrong)

/-- 'laws.FnMended': WHATEVER THE INPUT: true; the input reads as it did. -/
def fnMendedSpec : ChangeSpec := { name := "fnMended", vars := ["loop.example/golayoctads/impl.bareColumns", "loop.example/golayoctads/impl.digitProducts"], fn := fun _ => fun
  | [d, g1, g2] => { results := [.lit (.bool true)], args := [d], vars := [g1, g2] }
  | _ => none }
def fnMendedRow : OpenClaim := { program := "ytongfkjlajmgfaadoor", sum := "b29c1f5e6ee9a9044247520a4a8a9f4721f59f994e78ed85784c0e2b92b4423a", func := "loop.example/golayoctads/laws.FnMended", spec := "fnMended", unfollowed := true, recurses := true, named := ["loop.example/golayoctads/impl.bareColumns", "loop.example/golayoctads/impl.digitProducts"], apart := false, laid := [("loop.example/golayoctads/impl.digitProducts", laid_loop_example_golayoctads_impl_digitProducts), ("loop.example/golayoctads/impl.bareColumns", laid_loop_example_golayoctads_impl_bareColumns)] }
def FnMendedSaid : Prop := fnMendedRow.holds Tryd.pinned (OpenSpec.ofChange fnMendedSpec)

/-- ITS FALSE NEIGHBOUR: 'it returns false'. Refute it at one input. -/
def fnMendedWrong : ChangeSpec := { name := "fnMended", vars := ["loop.example/golayoctads/impl.bareColumns", "loop.example/golayoctads/impl.digitProducts"], fn := fun _ => fun
  | [d, g1, g2] => { results := [.lit (.bool false)], args := [d], vars := [g1, g2] }
  | _ => none }
def FnMendedWrongFalsely : Prop := fnMendedRow.holds Tryd.pinned (OpenSpec.ofChange fnMendedWrong)

/-- 'laws.FnExactCodeFar': WHATEVER THE INPUT: true; the input reads as it did. -/
def fnExactCodeFarSpec : ChangeSpec := { name := "fnExactCodeFar", vars := ["loop.example/golayoctads/impl.bareColumns", "loop.example/golayoctads/impl.digitProducts"], fn := fun _ => fun
  | [d, g1, g2] => { results := [.lit (.bool true)], args := [d], vars := [g1, g2] }
  | _ => none }
def fnExactCodeFarRow : OpenClaim := { program := "ytongfkjlajmgfaadoor", sum := "b29c1f5e6ee9a9044247520a4a8a9f4721f59f994e78ed85784c0e2b92b4423a", func := "loop.example/golayoctads/laws.FnExactCodeFar", spec := "fnExactCodeFar", unfollowed := true, recurses := true, named := ["loop.example/golayoctads/impl.bareColumns", "loop.example/golayoctads/impl.digitProducts"], apart := false, laid := [("loop.example/golayoctads/impl.digitProducts", laid_loop_example_golayoctads_impl_digitProducts), ("loop.example/golayoctads/impl.bareColumns", laid_loop_example_golayoctads_impl_bareColumns)] }
def FnExactCodeFarSaid : Prop := fnExactCodeFarRow.holds Tryd.pinned (OpenSpec.ofChange fnExactCodeFarSpec)

/-- ITS FALSE NEIGHBOUR: 'it returns false'. Refute it at one input. -/
def fnExactCodeFarWrong : ChangeSpec := { name := "fnExactCodeFar", vars := ["loop.example/golayoctads/impl.bareColumns", "loop.example/golayoctads/impl.digitProducts"], fn := fun _ => fun
  | [d, g1, g2] => { results := [.lit (.bool false)], args := [d], vars := [g1, g2] }
  | _ => none }
def FnExactCodeFarWrongFalsely : Prop := fnExactCodeFarRow.holds Tryd.pinned (OpenSpec.ofChange fnExactCodeFarWrong)

/-- 'laws.FnExactCodeNear': WHATEVER THE INPUT: true; the input reads as it did. -/
def fnExactCodeNearSpec : ChangeSpec := { name := "fnExactCodeNear", vars := ["loop.example/golayoctads/impl.bareColumns", "loop.example/golayoctads/impl.digitProducts"], fn := fun _ => fun
  | [d, g1, g2] => { results := [.lit (.bool true)], args := [d], vars := [g1, g2] }
  | _ => none }
def fnExactCodeNearRow : OpenClaim := { program := "ytongfkjlajmgfaadoor", sum := "b29c1f5e6ee9a9044247520a4a8a9f4721f59f994e78ed85784c0e2b92b4423a", func := "loop.example/golayoctads/laws.FnExactCodeNear", spec := "fnExactCodeNear", unfollowed := true, recurses := true, named := ["loop.example/golayoctads/impl.bareColumns", "loop.example/golayoctads/impl.digitProducts"], apart := false, laid := [("loop.example/golayoctads/impl.digitProducts", laid_loop_example_golayoctads_impl_digitProducts), ("loop.example/golayoctads/impl.bareColumns", laid_loop_example_golayoctads_impl_bareColumns)] }
def FnExactCodeNearSaid : Prop := fnExactCodeNearRow.holds Tryd.pinned (OpenSpec.ofChange fnExactCodeNearSpec)

/-- ITS FALSE NEIGHBOUR: 'it returns false'. Refute it at one input. -/
def fnExactCodeNearWrong : ChangeSpec := { name := "fnExactCodeNear", vars := ["loop.example/golayoctads/impl.bareColumns", "loop.example/golayoctads/impl.digitProducts"], fn := fun _ => fun
  | [d, g1, g2] => { results := [.lit (.bool false)], args := [d], vars := [g1, g2] }
  | _ => none }
def FnExactCodeNearWrongFalsely : Prop := fnExactCodeNearRow.holds Tryd.pinned (OpenSpec.ofChange fnExactCodeNearWrong)

/-- 'laws.FnExactCodeMend': WHATEVER THE INPUT: true; the input reads as it did. -/
def fnExactCodeMendSpec : ChangeSpec := { name := "fnExactCodeMend", vars := ["loop.example/golayoctads/impl.bareColumns", "loop.example/golayoctads/impl.digitProducts"], fn := fun _ => fun
  | [d, g1, g2] => { results := [.lit (.bool true)], args := [d], vars := [g1, g2] }
  | _ => none }
def fnExactCodeMendRow : OpenClaim := { program := "ytongfkjlajmgfaadoor", sum := "b29c1f5e6ee9a9044247520a4a8a9f4721f59f994e78ed85784c0e2b92b4423a", func := "loop.example/golayoctads/laws.FnExactCodeMend", spec := "fnExactCodeMend", unfollowed := true, recurses := true, named := ["loop.example/golayoctads/impl.bareColumns", "loop.example/golayoctads/impl.digitProducts"], apart := false, laid := [("loop.example/golayoctads/impl.digitProducts", laid_loop_example_golayoctads_impl_digitProducts), ("loop.example/golayoctads/impl.bareColumns", laid_loop_example_golayoctads_impl_bareColumns)] }
def FnExactCodeMendSaid : Prop := fnExactCodeMendRow.holds Tryd.pinned (OpenSpec.ofChange fnExactCodeMendSpec)

/-- ITS FALSE NEIGHBOUR: 'it returns false'. Refute it at one input. -/
def fnExactCodeMendWrong : ChangeSpec := { name := "fnExactCodeMend", vars := ["loop.example/golayoctads/impl.bareColumns", "loop.example/golayoctads/impl.digitProducts"], fn := fun _ => fun
  | [d, g1, g2] => { results := [.lit (.bool false)], args := [d], vars := [g1, g2] }
  | _ => none }
def FnExactCodeMendWrongFalsely : Prop := fnExactCodeMendRow.holds Tryd.pinned (OpenSpec.ofChange fnExactCodeMendWrong)

/-- 'laws.FnExactOctadIn': WHATEVER THE INPUT: true; the input reads as it did. -/
def fnExactOctadInSpec : ChangeSpec := { name := "fnExactOctadIn", vars := ["loop.example/golayoctads/impl.bareColumns", "loop.example/golayoctads/impl.digitProducts"], fn := fun _ => fun
  | [d, g1, g2] => { results := [.lit (.bool true)], args := [d], vars := [g1, g2] }
  | _ => none }
def fnExactOctadInRow : OpenClaim := { program := "ytongfkjlajmgfaadoor", sum := "b29c1f5e6ee9a9044247520a4a8a9f4721f59f994e78ed85784c0e2b92b4423a", func := "loop.example/golayoctads/laws.FnExactOctadIn", spec := "fnExactOctadIn", unfollowed := true, recurses := true, named := ["math/bits.deBruijn32tab", "loop.example/golayoctads/impl.bareColumns", "loop.example/golayoctads/impl.digitProducts"], apart := false, laid := [("math/bits.deBruijn32tab", laid_math_bits_deBruijn32tab), ("loop.example/golayoctads/impl.digitProducts", laid_loop_example_golayoctads_impl_digitProducts), ("loop.example/golayoctads/impl.bareColumns", laid_loop_example_golayoctads_impl_bareColumns)] }
def FnExactOctadInSaid : Prop := fnExactOctadInRow.holds Tryd.pinned (OpenSpec.ofChange fnExactOctadInSpec)

/-- ITS FALSE NEIGHBOUR: 'it returns false'. Refute it at one input. -/
def fnExactOctadInWrong : ChangeSpec := { name := "fnExactOctadIn", vars := ["loop.example/golayoctads/impl.bareColumns", "loop.example/golayoctads/impl.digitProducts"], fn := fun _ => fun
  | [d, g1, g2] => { results := [.lit (.bool false)], args := [d], vars := [g1, g2] }
  | _ => none }
def FnExactOctadInWrongFalsely : Prop := fnExactOctadInRow.holds Tryd.pinned (OpenSpec.ofChange fnExactOctadInWrong)

/-- 'laws.FnExactOctadPair': WHATEVER THE INPUT: true; the input reads as it did. -/
def fnExactOctadPairSpec : ChangeSpec := { name := "fnExactOctadPair", vars := ["loop.example/golayoctads/impl.bareColumns", "loop.example/golayoctads/impl.digitProducts"], fn := fun _ => fun
  | [d1, d2, g1, g2] => { results := [.lit (.bool true)], args := [d1, d2], vars := [g1, g2] }
  | _ => none }
def fnExactOctadPairRow : OpenClaim := { program := "ytongfkjlajmgfaadoor", sum := "b29c1f5e6ee9a9044247520a4a8a9f4721f59f994e78ed85784c0e2b92b4423a", func := "loop.example/golayoctads/laws.FnExactOctadPair", spec := "fnExactOctadPair", unfollowed := true, recurses := true, named := ["math/bits.deBruijn32tab", "loop.example/golayoctads/impl.bareColumns", "loop.example/golayoctads/impl.digitProducts"], apart := false, laid := [("math/bits.deBruijn32tab", laid_math_bits_deBruijn32tab), ("loop.example/golayoctads/impl.digitProducts", laid_loop_example_golayoctads_impl_digitProducts), ("loop.example/golayoctads/impl.bareColumns", laid_loop_example_golayoctads_impl_bareColumns)] }
def FnExactOctadPairSaid : Prop := fnExactOctadPairRow.holds Tryd.pinned (OpenSpec.ofChange fnExactOctadPairSpec)

/-- ITS FALSE NEIGHBOUR: 'it returns false'. Refute it at one input. -/
def fnExactOctadPairWrong : ChangeSpec := { name := "fnExactOctadPair", vars := ["loop.example/golayoctads/impl.bareColumns", "loop.example/golayoctads/impl.digitProducts"], fn := fun _ => fun
  | [d1, d2, g1, g2] => { results := [.lit (.bool false)], args := [d1, d2], vars := [g1, g2] }
  | _ => none }
def FnExactOctadPairWrongFalsely : Prop := fnExactOctadPairRow.holds Tryd.pinned (OpenSpec.ofChange fnExactOctadPairWrong)

/- THE SECOND FORM. 'bulk': how many values and letters a reading holds, each counted each time it is reached (what is shared counts as often as it is met; a slice's spare places count too). A statement '..UptoSaid' is the law's where the arguments, and the package variables that the reading takes, are together of bulk at most 1048576: NARROWER than '..Said'. Prove '..Said' where nothing that the law and all that it calls make is longer than what came in: it says more and counts as full. Else prove '..UptoSaid'. A law counts once. -/
mutual
def uptoBulk {H : Type} : DataW H → Nat
  | .lit (.string bytes) => bytes.length + 1
  | .lit _ => 1
  | .nil => 1
  | .ptr d => uptoBulk d + 1
  | .slice elems spare => uptoBulkAll elems + uptoBulkAll spare + 1
  | .agg parts => uptoBulkAll parts + 1
  | .iface _ d => uptoBulk d + 1
  | .map entries => uptoBulkEntries entries + 1
  | .held _ => 1
def uptoBulkAll {H : Type} : List (DataW H) → Nat
  | [] => 0
  | d :: r => uptoBulk d + uptoBulkAll r
def uptoBulkEntries {H : Type} : List (Lit × DataW H) → Nat
  | [] => 0
  | x :: r => uptoBulkEntry x + uptoBulkEntries r
def uptoBulkEntry {H : Type} : Lit × DataW H → Nat
  | (.string bytes, d) => bytes.length + uptoBulk d + 1
  | (_, d) => uptoBulk d + 1
 end
def uptoSmall : (H : Type) → List (DataW H) → Bool := fun _ ds => decide (uptoBulkAll ds ≤ 1048576)
def OpenSpec.upto (s : _root_.Go.ChangeSpec) : _root_.Go.OpenSpec := { _root_.Go.OpenSpec.ofChange s with cond := some uptoSmall }

/-- 'laws.FnFar', WHERE WHAT IT READS IS OF BULK AT MOST 1048576: true; the input reads as it did. -/
def fnFarUptoRow : OpenClaim := { program := "ytongfkjlajmgfaadoor", sum := "b29c1f5e6ee9a9044247520a4a8a9f4721f59f994e78ed85784c0e2b92b4423a", func := "loop.example/golayoctads/laws.FnFar", spec := "fnFar", unfollowed := true, recurses := true, named := ["loop.example/golayoctads/impl.bareColumns", "loop.example/golayoctads/impl.digitProducts", "math/bits.deBruijn32tab"], apart := false, laid := [("math/bits.deBruijn32tab", laid_math_bits_deBruijn32tab), ("loop.example/golayoctads/impl.digitProducts", laid_loop_example_golayoctads_impl_digitProducts), ("loop.example/golayoctads/impl.bareColumns", laid_loop_example_golayoctads_impl_bareColumns)], narrowed := true }
def FnFarUptoSaid : Prop := fnFarUptoRow.holds Tryd.pinned (OpenSpec.upto fnFarSpec)

/-- 'laws.FnNear', WHERE WHAT IT READS IS OF BULK AT MOST 1048576: true; the input reads as it did. -/
def fnNearUptoRow : OpenClaim := { program := "ytongfkjlajmgfaadoor", sum := "b29c1f5e6ee9a9044247520a4a8a9f4721f59f994e78ed85784c0e2b92b4423a", func := "loop.example/golayoctads/laws.FnNear", spec := "fnNear", unfollowed := true, recurses := true, named := ["loop.example/golayoctads/impl.bareColumns", "loop.example/golayoctads/impl.digitProducts", "math/bits.deBruijn32tab"], apart := false, laid := [("math/bits.deBruijn32tab", laid_math_bits_deBruijn32tab), ("loop.example/golayoctads/impl.digitProducts", laid_loop_example_golayoctads_impl_digitProducts), ("loop.example/golayoctads/impl.bareColumns", laid_loop_example_golayoctads_impl_bareColumns)], narrowed := true }
def FnNearUptoSaid : Prop := fnNearUptoRow.holds Tryd.pinned (OpenSpec.upto fnNearSpec)

/-- 'laws.FnMend', WHERE WHAT IT READS IS OF BULK AT MOST 1048576: true; the input reads as it did. -/
def fnMendUptoRow : OpenClaim := { program := "ytongfkjlajmgfaadoor", sum := "b29c1f5e6ee9a9044247520a4a8a9f4721f59f994e78ed85784c0e2b92b4423a", func := "loop.example/golayoctads/laws.FnMend", spec := "fnMend", unfollowed := true, recurses := true, named := ["loop.example/golayoctads/impl.bareColumns", "loop.example/golayoctads/impl.digitProducts", "math/bits.deBruijn32tab"], apart := false, laid := [("math/bits.deBruijn32tab", laid_math_bits_deBruijn32tab), ("loop.example/golayoctads/impl.digitProducts", laid_loop_example_golayoctads_impl_digitProducts), ("loop.example/golayoctads/impl.bareColumns", laid_loop_example_golayoctads_impl_bareColumns)], narrowed := true }
def FnMendUptoSaid : Prop := fnMendUptoRow.holds Tryd.pinned (OpenSpec.upto fnMendSpec)

/-- 'laws.FnMended', WHERE WHAT IT READS IS OF BULK AT MOST 1048576: true; the input reads as it did. -/
def fnMendedUptoRow : OpenClaim := { program := "ytongfkjlajmgfaadoor", sum := "b29c1f5e6ee9a9044247520a4a8a9f4721f59f994e78ed85784c0e2b92b4423a", func := "loop.example/golayoctads/laws.FnMended", spec := "fnMended", unfollowed := true, recurses := true, named := ["loop.example/golayoctads/impl.bareColumns", "loop.example/golayoctads/impl.digitProducts"], apart := false, laid := [("loop.example/golayoctads/impl.digitProducts", laid_loop_example_golayoctads_impl_digitProducts), ("loop.example/golayoctads/impl.bareColumns", laid_loop_example_golayoctads_impl_bareColumns)], narrowed := true }
def FnMendedUptoSaid : Prop := fnMendedUptoRow.holds Tryd.pinned (OpenSpec.upto fnMendedSpec)

/-- 'laws.FnExactCodeFar', WHERE WHAT IT READS IS OF BULK AT MOST 1048576: true; the input reads as it did. -/
def fnExactCodeFarUptoRow : OpenClaim := { program := "ytongfkjlajmgfaadoor", sum := "b29c1f5e6ee9a9044247520a4a8a9f4721f59f994e78ed85784c0e2b92b4423a", func := "loop.example/golayoctads/laws.FnExactCodeFar", spec := "fnExactCodeFar", unfollowed := true, recurses := true, named := ["loop.example/golayoctads/impl.bareColumns", "loop.example/golayoctads/impl.digitProducts"], apart := false, laid := [("loop.example/golayoctads/impl.digitProducts", laid_loop_example_golayoctads_impl_digitProducts), ("loop.example/golayoctads/impl.bareColumns", laid_loop_example_golayoctads_impl_bareColumns)], narrowed := true }
def FnExactCodeFarUptoSaid : Prop := fnExactCodeFarUptoRow.holds Tryd.pinned (OpenSpec.upto fnExactCodeFarSpec)

/-- 'laws.FnExactCodeNear', WHERE WHAT IT READS IS OF BULK AT MOST 1048576: true; the input reads as it did. -/
def fnExactCodeNearUptoRow : OpenClaim := { program := "ytongfkjlajmgfaadoor", sum := "b29c1f5e6ee9a9044247520a4a8a9f4721f59f994e78ed85784c0e2b92b4423a", func := "loop.example/golayoctads/laws.FnExactCodeNear", spec := "fnExactCodeNear", unfollowed := true, recurses := true, named := ["loop.example/golayoctads/impl.bareColumns", "loop.example/golayoctads/impl.digitProducts"], apart := false, laid := [("loop.example/golayoctads/impl.digitProducts", laid_loop_example_golayoctads_impl_digitProducts), ("loop.example/golayoctads/impl.bareColumns", laid_loop_example_golayoctads_impl_bareColumns)], narrowed := true }
def FnExactCodeNearUptoSaid : Prop := fnExactCodeNearUptoRow.holds Tryd.pinned (OpenSpec.upto fnExactCodeNearSpec)

/-- 'laws.FnExactCodeMend', WHERE WHAT IT READS IS OF BULK AT MOST 1048576: true; the input reads as it did. -/
def fnExactCodeMendUptoRow : OpenClaim := { program := "ytongfkjlajmgfaadoor", sum := "b29c1f5e6ee9a9044247520a4a8a9f4721f59f994e78ed85784c0e2b92b4423a", func := "loop.example/golayoctads/laws.FnExactCodeMend", spec := "fnExactCodeMend", unfollowed := true, recurses := true, named := ["loop.example/golayoctads/impl.bareColumns", "loop.example/golayoctads/impl.digitProducts"], apart := false, laid := [("loop.example/golayoctads/impl.digitProducts", laid_loop_example_golayoctads_impl_digitProducts), ("loop.example/golayoctads/impl.bareColumns", laid_loop_example_golayoctads_impl_bareColumns)], narrowed := true }
def FnExactCodeMendUptoSaid : Prop := fnExactCodeMendUptoRow.holds Tryd.pinned (OpenSpec.upto fnExactCodeMendSpec)

/-- 'laws.FnExactOctadIn', WHERE WHAT IT READS IS OF BULK AT MOST 1048576: true; the input reads as it did. -/
def fnExactOctadInUptoRow : OpenClaim := { program := "ytongfkjlajmgfaadoor", sum := "b29c1f5e6ee9a9044247520a4a8a9f4721f59f994e78ed85784c0e2b92b4423a", func := "loop.example/golayoctads/laws.FnExactOctadIn", spec := "fnExactOctadIn", unfollowed := true, recurses := true, named := ["math/bits.deBruijn32tab", "loop.example/golayoctads/impl.bareColumns", "loop.example/golayoctads/impl.digitProducts"], apart := false, laid := [("math/bits.deBruijn32tab", laid_math_bits_deBruijn32tab), ("loop.example/golayoctads/impl.digitProducts", laid_loop_example_golayoctads_impl_digitProducts), ("loop.example/golayoctads/impl.bareColumns", laid_loop_example_golayoctads_impl_bareColumns)], narrowed := true }
def FnExactOctadInUptoSaid : Prop := fnExactOctadInUptoRow.holds Tryd.pinned (OpenSpec.upto fnExactOctadInSpec)

/-- 'laws.FnExactOctadPair', WHERE WHAT IT READS IS OF BULK AT MOST 1048576: true; the input reads as it did. -/
def fnExactOctadPairUptoRow : OpenClaim := { program := "ytongfkjlajmgfaadoor", sum := "b29c1f5e6ee9a9044247520a4a8a9f4721f59f994e78ed85784c0e2b92b4423a", func := "loop.example/golayoctads/laws.FnExactOctadPair", spec := "fnExactOctadPair", unfollowed := true, recurses := true, named := ["math/bits.deBruijn32tab", "loop.example/golayoctads/impl.bareColumns", "loop.example/golayoctads/impl.digitProducts"], apart := false, laid := [("math/bits.deBruijn32tab", laid_math_bits_deBruijn32tab), ("loop.example/golayoctads/impl.digitProducts", laid_loop_example_golayoctads_impl_digitProducts), ("loop.example/golayoctads/impl.bareColumns", laid_loop_example_golayoctads_impl_bareColumns)], narrowed := true }
def FnExactOctadPairUptoSaid : Prop := fnExactOctadPairUptoRow.holds Tryd.pinned (OpenSpec.upto fnExactOctadPairSpec)

end Rows
end Go.Proofs.YtongfkjlajmgfaaDoor
