/-
  NARROWER THAN 'FOR EVERY INPUT', by the rows' own cells (each row's printed sentence says how): FnScores: laid · FnCodeIn: laid · FnCodeOf: laid · FnMessage: laid · FnExactCodeScores: laid · FnExactCodeIn: laid · FnExactCodeOf: laid · FnExactCodeMessage: laid.
  DERIVED. THE GIVEN ROWS OF THIS SEAT. 8 by the template 'for every input the law returns true; each argument reads behind the call as it read before'; 0 by the template 'total and deterministic' (their statements: YtphdemabkhmpoaaDoorTotals.lean).
  GIVEN WITH THE SEED: the statements are not yours to turn. If you find one false, say at which input.
  Laid BY PROGRAM, IN A SANDBOX (cutbox-rows.mjs): the forced cells as the released guide's own fill.sh prints them over the translation e2ea2816273a2f1b… (all of the seat's roots in one cut). By AI agents, Wed Nov 11 2026. No macro, syntax, notation, axiom, sorry.
-/
import Derived.Test.YtphdemabkhmpoaaDoorChecked
import GoSem.Claim
import GoSem.ClaimJoined
import GoSem.ClaimMapViews
import Derived.JoinedTies
import Derived.KernelRfl
namespace Go.Proofs.YtphdemabkhmpoaaDoor
/- THE CELL 'sum', in the pinned program and in every row, IS THE sha256 OF THE DUMP (.gsa) THAT YtphdemabkhmpoaaDoorProg.lean LOADS. Nothing in Lean hashes anything: it is a label: what it is worth is what the hold of that sum in a sandbox is worth. -/
noncomputable def Tryd.pinned : Pinned := { name := "ytphdemabkhmpoaadoor", sum := "e2ea2816273a2f1bea82a65d2ef7f509416c7b766df13cf8b99e3957e6b28ca5", checked := Tryd.checked }
namespace Rows
def none {H : Type} : Left H := { results := [], args := [] }

/- WHAT THE LISTED PACKAGE-LEVEL VARIABLES READ AS WHEN THE CALL BEGINS. Each datum BY PROGRAM (the guide's laid-datum.mjs) off the statement by which the dump's own 'gosem.cut.vars' lays the variable. In a bare row this is a premise. The card (YtphdemabkhmpoaaDoorCards.lean) ties it to the program's text. -/
def laid_math_bits_deBruijn32tab {H : Type} : DataW H := .agg [.lit (.int .u8 0), .lit (.int .u8 1), .lit (.int .u8 28), .lit (.int .u8 2), .lit (.int .u8 29), .lit (.int .u8 14), .lit (.int .u8 24), .lit (.int .u8 3), .lit (.int .u8 30), .lit (.int .u8 22), .lit (.int .u8 20), .lit (.int .u8 15), .lit (.int .u8 25), .lit (.int .u8 17), .lit (.int .u8 4), .lit (.int .u8 8), .lit (.int .u8 31), .lit (.int .u8 27), .lit (.int .u8 13), .lit (.int .u8 23), .lit (.int .u8 21), .lit (.int .u8 19), .lit (.int .u8 16), .lit (.int .u8 7), .lit (.int .u8 26), .lit (.int .u8 12), .lit (.int .u8 18), .lit (.int .u8 6), .lit (.int .u8 11), .lit (.int .u8 5), .lit (.int .u8 10), .lit (.int .u8 9)]
def laid_loop_example_golayoctads_impl_digitProducts {H : Type} : DataW H := .agg [.agg [.lit (.int .u8 0), .lit (.int .u8 0), .lit (.int .u8 0), .lit (.int .u8 0)], .agg [.lit (.int .u8 0), .lit (.int .u8 1), .lit (.int .u8 2), .lit (.int .u8 3)], .agg [.lit (.int .u8 0), .lit (.int .u8 2), .lit (.int .u8 3), .lit (.int .u8 1)], .agg [.lit (.int .u8 0), .lit (.int .u8 3), .lit (.int .u8 1), .lit (.int .u8 2)]]
def laid_loop_example_golayoctads_impl_bareColumns {H : Type} : DataW H := .agg [.agg [.lit (.int .u32 0), .lit (.int .u32 12), .lit (.int .u32 10), .lit (.int .u32 6)], .agg [.lit (.int .u32 14), .lit (.int .u32 2), .lit (.int .u32 4), .lit (.int .u32 8)]]

/-- 'laws.FnScores': WHATEVER THE INPUT: true; the input reads as it did. -/
def fnScoresSpec : ChangeSpec := { name := "fnScores", fn := fun _ => fun
  | [d] => { results := [.lit (.bool true)], args := [d] }
  | _ => none }
def fnScoresRow : OpenClaim := { program := "ytphdemabkhmpoaadoor", sum := "e2ea2816273a2f1bea82a65d2ef7f509416c7b766df13cf8b99e3957e6b28ca5", func := "loop.example/golayoctads/laws.FnScores", spec := "fnScores", unfollowed := true, recurses := true, named := ["math/bits.deBruijn32tab"], apart := false, laid := [("math/bits.deBruijn32tab", laid_math_bits_deBruijn32tab)] }
def FnScoresSaid : Prop := fnScoresRow.holds Tryd.pinned (OpenSpec.ofChange fnScoresSpec)

/-- ITS FALSE NEIGHBOUR: 'it returns false'. Refute it at one input. -/
def fnScoresWrong : ChangeSpec := { name := "fnScores", fn := fun _ => fun
  | [d] => { results := [.lit (.bool false)], args := [d] }
  | _ => none }
def FnScoresWrongFalsely : Prop := fnScoresRow.holds Tryd.pinned (OpenSpec.ofChange fnScoresWrong)

/-- 'laws.FnCodeIn': WHATEVER THE INPUT: true; the input reads as it did. -/
def fnCodeInSpec : ChangeSpec := { name := "fnCodeIn", vars := ["loop.example/golayoctads/impl.bareColumns", "loop.example/golayoctads/impl.digitProducts"], fn := fun _ => fun
  | [d, g1, g2] => { results := [.lit (.bool true)], args := [d], vars := [g1, g2] }
  | _ => none }
def fnCodeInRow : OpenClaim := { program := "ytphdemabkhmpoaadoor", sum := "e2ea2816273a2f1bea82a65d2ef7f509416c7b766df13cf8b99e3957e6b28ca5", func := "loop.example/golayoctads/laws.FnCodeIn", spec := "fnCodeIn", unfollowed := true, recurses := true, named := ["math/bits.deBruijn32tab", "loop.example/golayoctads/impl.bareColumns", "loop.example/golayoctads/impl.digitProducts"], apart := false, laid := [("math/bits.deBruijn32tab", laid_math_bits_deBruijn32tab), ("loop.example/golayoctads/impl.digitProducts", laid_loop_example_golayoctads_impl_digitProducts), ("loop.example/golayoctads/impl.bareColumns", laid_loop_example_golayoctads_impl_bareColumns)] }
def FnCodeInSaid : Prop := fnCodeInRow.holds Tryd.pinned (OpenSpec.ofChange fnCodeInSpec)

/-- ITS FALSE NEIGHBOUR: 'it returns false'. Refute it at one input. -/
def fnCodeInWrong : ChangeSpec := { name := "fnCodeIn", vars := ["loop.example/golayoctads/impl.bareColumns", "loop.example/golayoctads/impl.digitProducts"], fn := fun _ => fun
  | [d, g1, g2] => { results := [.lit (.bool false)], args := [d], vars := [g1, g2] }
  | _ => none }
def FnCodeInWrongFalsely : Prop := fnCodeInRow.holds Tryd.pinned (OpenSpec.ofChange fnCodeInWrong)

/-- 'laws.FnCodeOf': WHATEVER THE INPUT: true; the input reads as it did. -/
def fnCodeOfSpec : ChangeSpec := { name := "fnCodeOf", vars := ["loop.example/golayoctads/impl.bareColumns", "loop.example/golayoctads/impl.digitProducts"], fn := fun _ => fun
  | [d, g1, g2] => { results := [.lit (.bool true)], args := [d], vars := [g1, g2] }
  | _ => none }
def fnCodeOfRow : OpenClaim := { program := "ytphdemabkhmpoaadoor", sum := "e2ea2816273a2f1bea82a65d2ef7f509416c7b766df13cf8b99e3957e6b28ca5", func := "loop.example/golayoctads/laws.FnCodeOf", spec := "fnCodeOf", unfollowed := true, recurses := true, named := ["loop.example/golayoctads/impl.bareColumns", "loop.example/golayoctads/impl.digitProducts", "math/bits.deBruijn32tab"], apart := false, laid := [("math/bits.deBruijn32tab", laid_math_bits_deBruijn32tab), ("loop.example/golayoctads/impl.digitProducts", laid_loop_example_golayoctads_impl_digitProducts), ("loop.example/golayoctads/impl.bareColumns", laid_loop_example_golayoctads_impl_bareColumns)] }
def FnCodeOfSaid : Prop := fnCodeOfRow.holds Tryd.pinned (OpenSpec.ofChange fnCodeOfSpec)

/-- ITS FALSE NEIGHBOUR: 'it returns false'. Refute it at one input. -/
def fnCodeOfWrong : ChangeSpec := { name := "fnCodeOf", vars := ["loop.example/golayoctads/impl.bareColumns", "loop.example/golayoctads/impl.digitProducts"], fn := fun _ => fun
  | [d, g1, g2] => { results := [.lit (.bool false)], args := [d], vars := [g1, g2] }
  | _ => none }
def FnCodeOfWrongFalsely : Prop := fnCodeOfRow.holds Tryd.pinned (OpenSpec.ofChange fnCodeOfWrong)

/-- 'laws.FnMessage': WHATEVER THE INPUT: true; the input reads as it did. -/
def fnMessageSpec : ChangeSpec := { name := "fnMessage", vars := ["loop.example/golayoctads/impl.bareColumns", "loop.example/golayoctads/impl.digitProducts"], fn := fun _ => fun
  | [d, g1, g2] => { results := [.lit (.bool true)], args := [d], vars := [g1, g2] }
  | _ => none }
def fnMessageRow : OpenClaim := { program := "ytphdemabkhmpoaadoor", sum := "e2ea2816273a2f1bea82a65d2ef7f509416c7b766df13cf8b99e3957e6b28ca5", func := "loop.example/golayoctads/laws.FnMessage", spec := "fnMessage", unfollowed := true, recurses := true, named := ["math/bits.deBruijn32tab", "loop.example/golayoctads/impl.bareColumns", "loop.example/golayoctads/impl.digitProducts"], apart := false, laid := [("math/bits.deBruijn32tab", laid_math_bits_deBruijn32tab), ("loop.example/golayoctads/impl.digitProducts", laid_loop_example_golayoctads_impl_digitProducts), ("loop.example/golayoctads/impl.bareColumns", laid_loop_example_golayoctads_impl_bareColumns)] }
def FnMessageSaid : Prop := fnMessageRow.holds Tryd.pinned (OpenSpec.ofChange fnMessageSpec)

/-- ITS FALSE NEIGHBOUR: 'it returns false'. Refute it at one input. -/
def fnMessageWrong : ChangeSpec := { name := "fnMessage", vars := ["loop.example/golayoctads/impl.bareColumns", "loop.example/golayoctads/impl.digitProducts"], fn := fun _ => fun
  | [d, g1, g2] => { results := [.lit (.bool false)], args := [d], vars := [g1, g2] }
  | _ => none }
def FnMessageWrongFalsely : Prop := fnMessageRow.holds Tryd.pinned (OpenSpec.ofChange fnMessageWrong)

/-- 'laws.FnExactCodeScores': WHATEVER THE INPUT: true; the input reads as it did. -/
def fnExactCodeScoresSpec : ChangeSpec := { name := "fnExactCodeScores", fn := fun _ => fun
  | [d] => { results := [.lit (.bool true)], args := [d] }
  | _ => none }
def fnExactCodeScoresRow : OpenClaim := { program := "ytphdemabkhmpoaadoor", sum := "e2ea2816273a2f1bea82a65d2ef7f509416c7b766df13cf8b99e3957e6b28ca5", func := "loop.example/golayoctads/laws.FnExactCodeScores", spec := "fnExactCodeScores", unfollowed := true, recurses := true, named := ["math/bits.deBruijn32tab"], apart := false, laid := [("math/bits.deBruijn32tab", laid_math_bits_deBruijn32tab)] }
def FnExactCodeScoresSaid : Prop := fnExactCodeScoresRow.holds Tryd.pinned (OpenSpec.ofChange fnExactCodeScoresSpec)

/-- ITS FALSE NEIGHBOUR: 'it returns false'. Refute it at one input. -/
def fnExactCodeScoresWrong : ChangeSpec := { name := "fnExactCodeScores", fn := fun _ => fun
  | [d] => { results := [.lit (.bool false)], args := [d] }
  | _ => none }
def FnExactCodeScoresWrongFalsely : Prop := fnExactCodeScoresRow.holds Tryd.pinned (OpenSpec.ofChange fnExactCodeScoresWrong)

/-- 'laws.FnExactCodeIn': WHATEVER THE INPUT: true; the input reads as it did. -/
def fnExactCodeInSpec : ChangeSpec := { name := "fnExactCodeIn", vars := ["loop.example/golayoctads/impl.bareColumns", "loop.example/golayoctads/impl.digitProducts"], fn := fun _ => fun
  | [d, g1, g2] => { results := [.lit (.bool true)], args := [d], vars := [g1, g2] }
  | _ => none }
def fnExactCodeInRow : OpenClaim := { program := "ytphdemabkhmpoaadoor", sum := "e2ea2816273a2f1bea82a65d2ef7f509416c7b766df13cf8b99e3957e6b28ca5", func := "loop.example/golayoctads/laws.FnExactCodeIn", spec := "fnExactCodeIn", unfollowed := true, recurses := true, named := ["math/bits.deBruijn32tab", "loop.example/golayoctads/impl.bareColumns", "loop.example/golayoctads/impl.digitProducts"], apart := false, laid := [("math/bits.deBruijn32tab", laid_math_bits_deBruijn32tab), ("loop.example/golayoctads/impl.digitProducts", laid_loop_example_golayoctads_impl_digitProducts), ("loop.example/golayoctads/impl.bareColumns", laid_loop_example_golayoctads_impl_bareColumns)] }
def FnExactCodeInSaid : Prop := fnExactCodeInRow.holds Tryd.pinned (OpenSpec.ofChange fnExactCodeInSpec)

/-- ITS FALSE NEIGHBOUR: 'it returns false'. Refute it at one input. -/
def fnExactCodeInWrong : ChangeSpec := { name := "fnExactCodeIn", vars := ["loop.example/golayoctads/impl.bareColumns", "loop.example/golayoctads/impl.digitProducts"], fn := fun _ => fun
  | [d, g1, g2] => { results := [.lit (.bool false)], args := [d], vars := [g1, g2] }
  | _ => none }
def FnExactCodeInWrongFalsely : Prop := fnExactCodeInRow.holds Tryd.pinned (OpenSpec.ofChange fnExactCodeInWrong)

/-- 'laws.FnExactCodeOf': WHATEVER THE INPUT: true; the input reads as it did. -/
def fnExactCodeOfSpec : ChangeSpec := { name := "fnExactCodeOf", vars := ["loop.example/golayoctads/impl.bareColumns", "loop.example/golayoctads/impl.digitProducts"], fn := fun _ => fun
  | [d, g1, g2] => { results := [.lit (.bool true)], args := [d], vars := [g1, g2] }
  | _ => none }
def fnExactCodeOfRow : OpenClaim := { program := "ytphdemabkhmpoaadoor", sum := "e2ea2816273a2f1bea82a65d2ef7f509416c7b766df13cf8b99e3957e6b28ca5", func := "loop.example/golayoctads/laws.FnExactCodeOf", spec := "fnExactCodeOf", named := ["loop.example/golayoctads/impl.bareColumns", "loop.example/golayoctads/impl.digitProducts"], apart := false, laid := [("loop.example/golayoctads/impl.digitProducts", laid_loop_example_golayoctads_impl_digitProducts), ("loop.example/golayoctads/impl.bareColumns", laid_loop_example_golayoctads_impl_bareColumns)] }
def FnExactCodeOfSaid : Prop := fnExactCodeOfRow.holds Tryd.pinned (OpenSpec.ofChange fnExactCodeOfSpec)

/-- ITS FALSE NEIGHBOUR: 'it returns false'. Refute it at one input. -/
def fnExactCodeOfWrong : ChangeSpec := { name := "fnExactCodeOf", vars := ["loop.example/golayoctads/impl.bareColumns", "loop.example/golayoctads/impl.digitProducts"], fn := fun _ => fun
  | [d, g1, g2] => { results := [.lit (.bool false)], args := [d], vars := [g1, g2] }
  | _ => none }
def FnExactCodeOfWrongFalsely : Prop := fnExactCodeOfRow.holds Tryd.pinned (OpenSpec.ofChange fnExactCodeOfWrong)

/-- 'laws.FnExactCodeMessage': WHATEVER THE INPUT: true; the input reads as it did. -/
def fnExactCodeMessageSpec : ChangeSpec := { name := "fnExactCodeMessage", vars := ["loop.example/golayoctads/impl.bareColumns", "loop.example/golayoctads/impl.digitProducts"], fn := fun _ => fun
  | [d, g1, g2] => { results := [.lit (.bool true)], args := [d], vars := [g1, g2] }
  | _ => none }
def fnExactCodeMessageRow : OpenClaim := { program := "ytphdemabkhmpoaadoor", sum := "e2ea2816273a2f1bea82a65d2ef7f509416c7b766df13cf8b99e3957e6b28ca5", func := "loop.example/golayoctads/laws.FnExactCodeMessage", spec := "fnExactCodeMessage", unfollowed := true, recurses := true, named := ["math/bits.deBruijn32tab", "loop.example/golayoctads/impl.bareColumns", "loop.example/golayoctads/impl.digitProducts"], apart := false, laid := [("math/bits.deBruijn32tab", laid_math_bits_deBruijn32tab), ("loop.example/golayoctads/impl.digitProducts", laid_loop_example_golayoctads_impl_digitProducts), ("loop.example/golayoctads/impl.bareColumns", laid_loop_example_golayoctads_impl_bareColumns)] }
def FnExactCodeMessageSaid : Prop := fnExactCodeMessageRow.holds Tryd.pinned (OpenSpec.ofChange fnExactCodeMessageSpec)

/-- ITS FALSE NEIGHBOUR: 'it returns false'. Refute it at one input. -/
def fnExactCodeMessageWrong : ChangeSpec := { name := "fnExactCodeMessage", vars := ["loop.example/golayoctads/impl.bareColumns", "loop.example/golayoctads/impl.digitProducts"], fn := fun _ => fun
  | [d, g1, g2] => { results := [.lit (.bool false)], args := [d], vars := [g1, g2] }
  | _ => none }
def FnExactCodeMessageWrongFalsely : Prop := fnExactCodeMessageRow.holds Tryd.pinned (OpenSpec.ofChange fnExactCodeMessageWrong)

/- THE SECOND FORM. 'bulk': how many values and letters a reading holds, each counted each time it is reached (what is shared counts as often as it is met; a slice's spare places count too). A statement '..UptoSaid' is the law's where the arguments, and the package variables that the reading takes, are together of bulk at most 1048576: NARROWER than '..Said'. Prove '..Said' where nothing that the law and all that it calls make is longer than what came in: it says more and counts as full. Else prove '..UptoSaid'. A law counts once. -/
mutual
def uptoBulk {H : Type} : DataW H → Nat
  | .lit (.string bytes) => bytes.length + 1
  | .lit _ => 1
  | .nil => 1
  | .ptr d => uptoBulk d + 1
  | .slice elems spare => uptoBulkAll elems + uptoBulkAll spare + 1
  | .agg parts => uptoBulkAll parts + 1
  | .iface _ d => uptoBulk d + 1
  | .map entries => uptoBulkEntries entries + 1
  | .held _ => 1
def uptoBulkAll {H : Type} : List (DataW H) → Nat
  | [] => 0
  | d :: r => uptoBulk d + uptoBulkAll r
def uptoBulkEntries {H : Type} : List (Lit × DataW H) → Nat
  | [] => 0
  | x :: r => uptoBulkEntry x + uptoBulkEntries r
def uptoBulkEntry {H : Type} : Lit × DataW H → Nat
  | (.string bytes, d) => bytes.length + uptoBulk d + 1
  | (_, d) => uptoBulk d + 1
 end
def uptoSmall : (H : Type) → List (DataW H) → Bool := fun _ ds => decide (uptoBulkAll ds ≤ 1048576)
def OpenSpec.upto (s : _root_.Go.ChangeSpec) : _root_.Go.OpenSpec := { _root_.Go.OpenSpec.ofChange s with cond := some uptoSmall }

/-- 'laws.FnScores', WHERE WHAT IT READS IS OF BULK AT MOST 1048576: true; the input reads as it did. -/
def fnScoresUptoRow : OpenClaim := { program := "ytphdemabkhmpoaadoor", sum := "e2ea2816273a2f1bea82a65d2ef7f509416c7b766df13cf8b99e3957e6b28ca5", func := "loop.example/golayoctads/laws.FnScores", spec := "fnScores", unfollowed := true, recurses := true, named := ["math/bits.deBruijn32tab"], apart := false, laid := [("math/bits.deBruijn32tab", laid_math_bits_deBruijn32tab)], narrowed := true }
def FnScoresUptoSaid : Prop := fnScoresUptoRow.holds Tryd.pinned (OpenSpec.upto fnScoresSpec)

/-- 'laws.FnCodeIn', WHERE WHAT IT READS IS OF BULK AT MOST 1048576: true; the input reads as it did. -/
def fnCodeInUptoRow : OpenClaim := { program := "ytphdemabkhmpoaadoor", sum := "e2ea2816273a2f1bea82a65d2ef7f509416c7b766df13cf8b99e3957e6b28ca5", func := "loop.example/golayoctads/laws.FnCodeIn", spec := "fnCodeIn", unfollowed := true, recurses := true, named := ["math/bits.deBruijn32tab", "loop.example/golayoctads/impl.bareColumns", "loop.example/golayoctads/impl.digitProducts"], apart := false, laid := [("math/bits.deBruijn32tab", laid_math_bits_deBruijn32tab), ("loop.example/golayoctads/impl.digitProducts", laid_loop_example_golayoctads_impl_digitProducts), ("loop.example/golayoctads/impl.bareColumns", laid_loop_example_golayoctads_impl_bareColumns)], narrowed := true }
def FnCodeInUptoSaid : Prop := fnCodeInUptoRow.holds Tryd.pinned (OpenSpec.upto fnCodeInSpec)

/-- 'laws.FnCodeOf', WHERE WHAT IT READS IS OF BULK AT MOST 1048576: true; the input reads as it did. -/
def fnCodeOfUptoRow : OpenClaim := { program := "ytphdemabkhmpoaadoor", sum := "e2ea2816273a2f1bea82a65d2ef7f509416c7b766df13cf8b99e3957e6b28ca5", func := "loop.example/golayoctads/laws.FnCodeOf", spec := "fnCodeOf", unfollowed := true, recurses := true, named := ["loop.example/golayoctads/impl.bareColumns", "loop.example/golayoctads/impl.digitProducts", "math/bits.deBruijn32tab"], apart := false, laid := [("math/bits.deBruijn32tab", laid_math_bits_deBruijn32tab), ("loop.example/golayoctads/impl.digitProducts", laid_loop_example_golayoctads_impl_digitProducts), ("loop.example/golayoctads/impl.bareColumns", laid_loop_example_golayoctads_impl_bareColumns)], narrowed := true }
def FnCodeOfUptoSaid : Prop := fnCodeOfUptoRow.holds Tryd.pinned (OpenSpec.upto fnCodeOfSpec)

/-- 'laws.FnMessage', WHERE WHAT IT READS IS OF BULK AT MOST 1048576: true; the input reads as it did. -/
def fnMessageUptoRow : OpenClaim := { program := "ytphdemabkhmpoaadoor", sum := "e2ea2816273a2f1bea82a65d2ef7f509416c7b766df13cf8b99e3957e6b28ca5", func := "loop.example/golayoctads/laws.FnMessage", spec := "fnMessage", unfollowed := true, recurses := true, named := ["math/bits.deBruijn32tab", "loop.example/golayoctads/impl.bareColumns", "loop.example/golayoctads/impl.digitProducts"], apart := false, laid := [("math/bits.deBruijn32tab", laid_math_bits_deBruijn32tab), ("loop.example/golayoctads/impl.digitProducts", laid_loop_example_golayoctads_impl_digitProducts), ("loop.example/golayoctads/impl.bareColumns", laid_loop_example_golayoctads_impl_bareColumns)], narrowed := true }
def FnMessageUptoSaid : Prop := fnMessageUptoRow.holds Tryd.pinned (OpenSpec.upto fnMessageSpec)

/-- 'laws.FnExactCodeScores', WHERE WHAT IT READS IS OF BULK AT MOST 1048576: true; the input reads as it did. -/
def fnExactCodeScoresUptoRow : OpenClaim := { program := "ytphdemabkhmpoaadoor", sum := "e2ea2816273a2f1bea82a65d2ef7f509416c7b766df13cf8b99e3957e6b28ca5", func := "loop.example/golayoctads/laws.FnExactCodeScores", spec := "fnExactCodeScores", unfollowed := true, recurses := true, named := ["math/bits.deBruijn32tab"], apart := false, laid := [("math/bits.deBruijn32tab", laid_math_bits_deBruijn32tab)], narrowed := true }
def FnExactCodeScoresUptoSaid : Prop := fnExactCodeScoresUptoRow.holds Tryd.pinned (OpenSpec.upto fnExactCodeScoresSpec)

/-- 'laws.FnExactCodeIn', WHERE WHAT IT READS IS OF BULK AT MOST 1048576: true; the input reads as it did. -/
def fnExactCodeInUptoRow : OpenClaim := { program := "ytphdemabkhmpoaadoor", sum := "e2ea2816273a2f1bea82a65d2ef7f509416c7b766df13cf8b99e3957e6b28ca5", func := "loop.example/golayoctads/laws.FnExactCodeIn", spec := "fnExactCodeIn", unfollowed := true, recurses := true, named := ["math/bits.deBruijn32tab", "loop.example/golayoctads/impl.bareColumns", "loop.example/golayoctads/impl.digitProducts"], apart := false, laid := [("math/bits.deBruijn32tab", laid_math_bits_deBruijn32tab), ("loop.example/golayoctads/impl.digitProducts", laid_loop_example_golayoctads_impl_digitProducts), ("loop.example/golayoctads/impl.bareColumns", laid_loop_example_golayoctads_impl_bareColumns)], narrowed := true }
def FnExactCodeInUptoSaid : Prop := fnExactCodeInUptoRow.holds Tryd.pinned (OpenSpec.upto fnExactCodeInSpec)

/-- 'laws.FnExactCodeOf', WHERE WHAT IT READS IS OF BULK AT MOST 1048576: true; the input reads as it did. -/
def fnExactCodeOfUptoRow : OpenClaim := { program := "ytphdemabkhmpoaadoor", sum := "e2ea2816273a2f1bea82a65d2ef7f509416c7b766df13cf8b99e3957e6b28ca5", func := "loop.example/golayoctads/laws.FnExactCodeOf", spec := "fnExactCodeOf", named := ["loop.example/golayoctads/impl.bareColumns", "loop.example/golayoctads/impl.digitProducts"], apart := false, laid := [("loop.example/golayoctads/impl.digitProducts", laid_loop_example_golayoctads_impl_digitProducts), ("loop.example/golayoctads/impl.bareColumns", laid_loop_example_golayoctads_impl_bareColumns)], narrowed := true }
def FnExactCodeOfUptoSaid : Prop := fnExactCodeOfUptoRow.holds Tryd.pinned (OpenSpec.upto fnExactCodeOfSpec)

/-- 'laws.FnExactCodeMessage', WHERE WHAT IT READS IS OF BULK AT MOST 1048576: true; the input reads as it did. -/
def fnExactCodeMessageUptoRow : OpenClaim := { program := "ytphdemabkhmpoaadoor", sum := "e2ea2816273a2f1bea82a65d2ef7f509416c7b766df13cf8b99e3957e6b28ca5", func := "loop.example/golayoctads/laws.FnExactCodeMessage", spec := "fnExactCodeMessage", unfollowed := true, recurses := true, named := ["math/bits.deBruijn32tab", "loop.example/golayoctads/impl.bareColumns", "loop.example/golayoctads/impl.digitProducts"], apart := false, laid := [("math/bits.deBruijn32tab", laid_math_bits_deBruijn32tab), ("loop.example/golayoctads/impl.digitProducts", laid_loop_example_golayoctads_impl_digitProducts), ("loop.example/golayoctads/impl.bareColumns", laid_loop_example_golayoctads_impl_bareColumns)], narrowed := true }
def FnExactCodeMessageUptoSaid : Prop := fnExactCodeMessageUptoRow.holds Tryd.pinned (OpenSpec.upto fnExactCodeMessageSpec)

end Rows
end Go.Proofs.YtphdemabkhmpoaaDoor
