/-
  NARROWER THAN 'FOR EVERY INPUT', by the rows' own cells (each row's printed sentence says how): FnExactPlaneLine: laid · FnExactPlaneOn: laid · FnExactPlaneOval: laid · FnExactPlaneFour: laid · FnExactPlaneSub: laid.
  DERIVED. THE GIVEN ROWS OF THIS SEAT. 5 by the template 'for every input the law returns true; each argument reads behind the call as it read before'; 0 by the template 'total and deterministic' (their statements: YtaopcfiaffmfhabGreatDoorTotals.lean).
  GIVEN WITH THE SEED: the statements are not yours to turn. If you find one false, say at which input.
  Laid BY PROGRAM, IN A SANDBOX (cutbox-rows.mjs): the forced cells as the released guide's own fill.sh prints them over the translation 71a9f1c06fbc14d0… (all of the seat's roots in one cut). By AI agents, Wed Nov 11 2026. No macro, syntax, notation, axiom, sorry.
-/
import Derived.Test.YtaopcfiaffmfhabGreatDoorChecked
import GoSem.Claim
import GoSem.ClaimJoined
import GoSem.ClaimMapViews
import Derived.JoinedTies
import Derived.KernelRfl
namespace Go.Proofs.YtaopcfiaffmfhabGreatDoor
/- THE CELL 'sum', in the pinned program and in every row, IS THE sha256 OF THE DUMP (.gsa) THAT YtaopcfiaffmfhabGreatDoorProg.lean LOADS. Nothing in Lean hashes anything: it is a label: what it is worth is what the hold of that sum in a sandbox is worth. -/
noncomputable def Tryz.pinned : Pinned := { name := "ytaopcfiaffmfhabgreatdoor", sum := "71a9f1c06fbc14d08d3d1d21abd41590638db59b99c5ab4fd6a74b31d015a5fb", checked := Tryz.checked }
namespace Rows
def none {H : Type} : Left H := { results := [], args := [] }

/- WHAT THE LISTED PACKAGE-LEVEL VARIABLES READ AS WHEN THE CALL BEGINS. Each datum BY PROGRAM (the guide's laid-datum.mjs) off the statement by which the dump's own 'gosem.cut.vars' lays the variable. In a bare row this is a premise. The card (YtaopcfiaffmfhabGreatDoorCards.lean) ties it to the program's text. -/
def laid_errors_errorType {H : Type} : DataW H := .iface "internal/reflectlite.rtype" (.agg [.ptr (.lit (.string [101, 114, 114, 111, 114]))])
def laid_loop_example_golayoctads_impl_digitProducts {H : Type} : DataW H := .agg [.agg [.lit (.int .u8 0), .lit (.int .u8 0), .lit (.int .u8 0), .lit (.int .u8 0)], .agg [.lit (.int .u8 0), .lit (.int .u8 1), .lit (.int .u8 2), .lit (.int .u8 3)], .agg [.lit (.int .u8 0), .lit (.int .u8 2), .lit (.int .u8 3), .lit (.int .u8 1)], .agg [.lit (.int .u8 0), .lit (.int .u8 3), .lit (.int .u8 1), .lit (.int .u8 2)]]
def laid_loop_example_golayoctads_impl_bareColumns {H : Type} : DataW H := .agg [.agg [.lit (.int .u32 0), .lit (.int .u32 12), .lit (.int .u32 10), .lit (.int .u32 6)], .agg [.lit (.int .u32 14), .lit (.int .u32 2), .lit (.int .u32 4), .lit (.int .u32 8)]]
def laid_math_bits_deBruijn32tab {H : Type} : DataW H := .agg [.lit (.int .u8 0), .lit (.int .u8 1), .lit (.int .u8 28), .lit (.int .u8 2), .lit (.int .u8 29), .lit (.int .u8 14), .lit (.int .u8 24), .lit (.int .u8 3), .lit (.int .u8 30), .lit (.int .u8 22), .lit (.int .u8 20), .lit (.int .u8 15), .lit (.int .u8 25), .lit (.int .u8 17), .lit (.int .u8 4), .lit (.int .u8 8), .lit (.int .u8 31), .lit (.int .u8 27), .lit (.int .u8 13), .lit (.int .u8 23), .lit (.int .u8 21), .lit (.int .u8 19), .lit (.int .u8 16), .lit (.int .u8 7), .lit (.int .u8 26), .lit (.int .u8 12), .lit (.int .u8 18), .lit (.int .u8 6), .lit (.int .u8 11), .lit (.int .u8 5), .lit (.int .u8 10), .lit (.int .u8 9)]

/-- 'laws.FnExactPlaneLine': WHATEVER THE INPUT: true; the input reads as it did. -/
def fnExactPlaneLineSpec : ChangeSpec := { name := "fnExactPlaneLine", vars := ["loop.example/golayoctads/impl.bareColumns", "loop.example/golayoctads/impl.digitProducts"], fn := fun _ => fun
  | [d1, d2, d3, g1, g2] => { results := [.lit (.bool true)], args := [d1, d2, d3], vars := [g1, g2] }
  | _ => none }
def fnExactPlaneLineRow : OpenClaim := { program := "ytaopcfiaffmfhabgreatdoor", sum := "71a9f1c06fbc14d08d3d1d21abd41590638db59b99c5ab4fd6a74b31d015a5fb", func := "loop.example/golayoctads/laws.FnExactPlaneLine", spec := "fnExactPlaneLine", inPlace := ["internal/reflectlite.ValueOf", "(internal/reflectlite.Value).Type", "(internal/reflectlite.Value).IsNil", "internal/reflectlite.TypeOf", "(internal/reflectlite.Value).Elem", "(internal/reflectlite.Value).Set"], unfollowed := true, recurses := true, named := ["loop.example/golayoctads/impl.bareColumns", "loop.example/golayoctads/impl.digitProducts", "errors.errorType"], apart := false, laid := [("errors.errorType", laid_errors_errorType), ("loop.example/golayoctads/impl.digitProducts", laid_loop_example_golayoctads_impl_digitProducts), ("loop.example/golayoctads/impl.bareColumns", laid_loop_example_golayoctads_impl_bareColumns)] }
def FnExactPlaneLineSaid : Prop := fnExactPlaneLineRow.holds Tryz.pinned (OpenSpec.ofChange fnExactPlaneLineSpec)

/-- ITS FALSE NEIGHBOUR: 'it returns false'. Refute it at one input. -/
def fnExactPlaneLineWrong : ChangeSpec := { name := "fnExactPlaneLine", vars := ["loop.example/golayoctads/impl.bareColumns", "loop.example/golayoctads/impl.digitProducts"], fn := fun _ => fun
  | [d1, d2, d3, g1, g2] => { results := [.lit (.bool false)], args := [d1, d2, d3], vars := [g1, g2] }
  | _ => none }
def FnExactPlaneLineWrongFalsely : Prop := fnExactPlaneLineRow.holds Tryz.pinned (OpenSpec.ofChange fnExactPlaneLineWrong)

/-- 'laws.FnExactPlaneOn': WHATEVER THE INPUT: true; the input reads as it did. -/
def fnExactPlaneOnSpec : ChangeSpec := { name := "fnExactPlaneOn", vars := ["loop.example/golayoctads/impl.bareColumns", "loop.example/golayoctads/impl.digitProducts"], fn := fun _ => fun
  | [d1, d2, g1, g2] => { results := [.lit (.bool true)], args := [d1, d2], vars := [g1, g2] }
  | _ => none }
def fnExactPlaneOnRow : OpenClaim := { program := "ytaopcfiaffmfhabgreatdoor", sum := "71a9f1c06fbc14d08d3d1d21abd41590638db59b99c5ab4fd6a74b31d015a5fb", func := "loop.example/golayoctads/laws.FnExactPlaneOn", spec := "fnExactPlaneOn", inPlace := ["internal/reflectlite.ValueOf", "(internal/reflectlite.Value).Type", "(internal/reflectlite.Value).IsNil", "internal/reflectlite.TypeOf", "(internal/reflectlite.Value).Elem", "(internal/reflectlite.Value).Set"], unfollowed := true, recurses := true, named := ["loop.example/golayoctads/impl.bareColumns", "loop.example/golayoctads/impl.digitProducts", "errors.errorType"], apart := false, laid := [("errors.errorType", laid_errors_errorType), ("loop.example/golayoctads/impl.digitProducts", laid_loop_example_golayoctads_impl_digitProducts), ("loop.example/golayoctads/impl.bareColumns", laid_loop_example_golayoctads_impl_bareColumns)] }
def FnExactPlaneOnSaid : Prop := fnExactPlaneOnRow.holds Tryz.pinned (OpenSpec.ofChange fnExactPlaneOnSpec)

/-- ITS FALSE NEIGHBOUR: 'it returns false'. Refute it at one input. -/
def fnExactPlaneOnWrong : ChangeSpec := { name := "fnExactPlaneOn", vars := ["loop.example/golayoctads/impl.bareColumns", "loop.example/golayoctads/impl.digitProducts"], fn := fun _ => fun
  | [d1, d2, g1, g2] => { results := [.lit (.bool false)], args := [d1, d2], vars := [g1, g2] }
  | _ => none }
def FnExactPlaneOnWrongFalsely : Prop := fnExactPlaneOnRow.holds Tryz.pinned (OpenSpec.ofChange fnExactPlaneOnWrong)

/-- 'laws.FnExactPlaneOval': WHATEVER THE INPUT: true; the input reads as it did. -/
def fnExactPlaneOvalSpec : ChangeSpec := { name := "fnExactPlaneOval", vars := ["loop.example/golayoctads/impl.bareColumns", "loop.example/golayoctads/impl.digitProducts"], fn := fun _ => fun
  | [d1, d2, g1, g2] => { results := [.lit (.bool true)], args := [d1, d2], vars := [g1, g2] }
  | _ => none }
def fnExactPlaneOvalRow : OpenClaim := { program := "ytaopcfiaffmfhabgreatdoor", sum := "71a9f1c06fbc14d08d3d1d21abd41590638db59b99c5ab4fd6a74b31d015a5fb", func := "loop.example/golayoctads/laws.FnExactPlaneOval", spec := "fnExactPlaneOval", inPlace := ["internal/reflectlite.ValueOf", "(internal/reflectlite.Value).Type", "(internal/reflectlite.Value).IsNil", "internal/reflectlite.TypeOf", "(internal/reflectlite.Value).Elem", "(internal/reflectlite.Value).Set"], unfollowed := true, recurses := true, named := ["loop.example/golayoctads/impl.bareColumns", "loop.example/golayoctads/impl.digitProducts", "math/bits.deBruijn32tab", "errors.errorType"], apart := false, laid := [("math/bits.deBruijn32tab", laid_math_bits_deBruijn32tab), ("errors.errorType", laid_errors_errorType), ("loop.example/golayoctads/impl.digitProducts", laid_loop_example_golayoctads_impl_digitProducts), ("loop.example/golayoctads/impl.bareColumns", laid_loop_example_golayoctads_impl_bareColumns)] }
def FnExactPlaneOvalSaid : Prop := fnExactPlaneOvalRow.holds Tryz.pinned (OpenSpec.ofChange fnExactPlaneOvalSpec)

/-- ITS FALSE NEIGHBOUR: 'it returns false'. Refute it at one input. -/
def fnExactPlaneOvalWrong : ChangeSpec := { name := "fnExactPlaneOval", vars := ["loop.example/golayoctads/impl.bareColumns", "loop.example/golayoctads/impl.digitProducts"], fn := fun _ => fun
  | [d1, d2, g1, g2] => { results := [.lit (.bool false)], args := [d1, d2], vars := [g1, g2] }
  | _ => none }
def FnExactPlaneOvalWrongFalsely : Prop := fnExactPlaneOvalRow.holds Tryz.pinned (OpenSpec.ofChange fnExactPlaneOvalWrong)

/-- 'laws.FnExactPlaneFour': WHATEVER THE INPUT: true; the input reads as it did. -/
def fnExactPlaneFourSpec : ChangeSpec := { name := "fnExactPlaneFour", vars := ["loop.example/golayoctads/impl.bareColumns", "loop.example/golayoctads/impl.digitProducts"], fn := fun _ => fun
  | [d1, d2, g1, g2] => { results := [.lit (.bool true)], args := [d1, d2], vars := [g1, g2] }
  | _ => none }
def fnExactPlaneFourRow : OpenClaim := { program := "ytaopcfiaffmfhabgreatdoor", sum := "71a9f1c06fbc14d08d3d1d21abd41590638db59b99c5ab4fd6a74b31d015a5fb", func := "loop.example/golayoctads/laws.FnExactPlaneFour", spec := "fnExactPlaneFour", inPlace := ["internal/reflectlite.ValueOf", "(internal/reflectlite.Value).Type", "(internal/reflectlite.Value).IsNil", "internal/reflectlite.TypeOf", "(internal/reflectlite.Value).Elem", "(internal/reflectlite.Value).Set"], unfollowed := true, recurses := true, named := ["loop.example/golayoctads/impl.bareColumns", "loop.example/golayoctads/impl.digitProducts", "math/bits.deBruijn32tab", "errors.errorType"], apart := false, laid := [("math/bits.deBruijn32tab", laid_math_bits_deBruijn32tab), ("errors.errorType", laid_errors_errorType), ("loop.example/golayoctads/impl.digitProducts", laid_loop_example_golayoctads_impl_digitProducts), ("loop.example/golayoctads/impl.bareColumns", laid_loop_example_golayoctads_impl_bareColumns)] }
def FnExactPlaneFourSaid : Prop := fnExactPlaneFourRow.holds Tryz.pinned (OpenSpec.ofChange fnExactPlaneFourSpec)

/-- ITS FALSE NEIGHBOUR: 'it returns false'. Refute it at one input. -/
def fnExactPlaneFourWrong : ChangeSpec := { name := "fnExactPlaneFour", vars := ["loop.example/golayoctads/impl.bareColumns", "loop.example/golayoctads/impl.digitProducts"], fn := fun _ => fun
  | [d1, d2, g1, g2] => { results := [.lit (.bool false)], args := [d1, d2], vars := [g1, g2] }
  | _ => none }
def FnExactPlaneFourWrongFalsely : Prop := fnExactPlaneFourRow.holds Tryz.pinned (OpenSpec.ofChange fnExactPlaneFourWrong)

/-- 'laws.FnExactPlaneSub': WHATEVER THE INPUT: true; the input reads as it did. -/
def fnExactPlaneSubSpec : ChangeSpec := { name := "fnExactPlaneSub", vars := ["loop.example/golayoctads/impl.bareColumns", "loop.example/golayoctads/impl.digitProducts"], fn := fun _ => fun
  | [d1, d2, g1, g2] => { results := [.lit (.bool true)], args := [d1, d2], vars := [g1, g2] }
  | _ => none }
def fnExactPlaneSubRow : OpenClaim := { program := "ytaopcfiaffmfhabgreatdoor", sum := "71a9f1c06fbc14d08d3d1d21abd41590638db59b99c5ab4fd6a74b31d015a5fb", func := "loop.example/golayoctads/laws.FnExactPlaneSub", spec := "fnExactPlaneSub", inPlace := ["internal/reflectlite.ValueOf", "(internal/reflectlite.Value).Type", "(internal/reflectlite.Value).IsNil", "internal/reflectlite.TypeOf", "(internal/reflectlite.Value).Elem", "(internal/reflectlite.Value).Set"], unfollowed := true, recurses := true, named := ["loop.example/golayoctads/impl.bareColumns", "loop.example/golayoctads/impl.digitProducts", "math/bits.deBruijn32tab", "errors.errorType"], apart := false, laid := [("math/bits.deBruijn32tab", laid_math_bits_deBruijn32tab), ("errors.errorType", laid_errors_errorType), ("loop.example/golayoctads/impl.digitProducts", laid_loop_example_golayoctads_impl_digitProducts), ("loop.example/golayoctads/impl.bareColumns", laid_loop_example_golayoctads_impl_bareColumns)] }
def FnExactPlaneSubSaid : Prop := fnExactPlaneSubRow.holds Tryz.pinned (OpenSpec.ofChange fnExactPlaneSubSpec)

/-- ITS FALSE NEIGHBOUR: 'it returns false'. Refute it at one input. -/
def fnExactPlaneSubWrong : ChangeSpec := { name := "fnExactPlaneSub", vars := ["loop.example/golayoctads/impl.bareColumns", "loop.example/golayoctads/impl.digitProducts"], fn := fun _ => fun
  | [d1, d2, g1, g2] => { results := [.lit (.bool false)], args := [d1, d2], vars := [g1, g2] }
  | _ => none }
def FnExactPlaneSubWrongFalsely : Prop := fnExactPlaneSubRow.holds Tryz.pinned (OpenSpec.ofChange fnExactPlaneSubWrong)

/- THE SECOND FORM. 'bulk': how many values and letters a reading holds, each counted each time it is reached (what is shared counts as often as it is met; a slice's spare places count too). A statement '..UptoSaid' is the law's where the arguments, and the package variables that the reading takes, are together of bulk at most 1048576: NARROWER than '..Said'. Prove '..Said' where nothing that the law and all that it calls make is longer than what came in: it says more and counts as full. Else prove '..UptoSaid'. A law counts once. -/
mutual
def uptoBulk {H : Type} : DataW H → Nat
  | .lit (.string bytes) => bytes.length + 1
  | .lit _ => 1
  | .nil => 1
  | .ptr d => uptoBulk d + 1
  | .slice elems spare => uptoBulkAll elems + uptoBulkAll spare + 1
  | .agg parts => uptoBulkAll parts + 1
  | .iface _ d => uptoBulk d + 1
  | .map entries => uptoBulkEntries entries + 1
  | .held _ => 1
def uptoBulkAll {H : Type} : List (DataW H) → Nat
  | [] => 0
  | d :: r => uptoBulk d + uptoBulkAll r
def uptoBulkEntries {H : Type} : List (Lit × DataW H) → Nat
  | [] => 0
  | x :: r => uptoBulkEntry x + uptoBulkEntries r
def uptoBulkEntry {H : Type} : Lit × DataW H → Nat
  | (.string bytes, d) => bytes.length + uptoBulk d + 1
  | (_, d) => uptoBulk d + 1
 end
def uptoSmall : (H : Type) → List (DataW H) → Bool := fun _ ds => decide (uptoBulkAll ds ≤ 1048576)
def OpenSpec.upto (s : _root_.Go.ChangeSpec) : _root_.Go.OpenSpec := { _root_.Go.OpenSpec.ofChange s with cond := some uptoSmall }

/-- 'laws.FnExactPlaneLine', WHERE WHAT IT READS IS OF BULK AT MOST 1048576: true; the input reads as it did. -/
def fnExactPlaneLineUptoRow : OpenClaim := { program := "ytaopcfiaffmfhabgreatdoor", sum := "71a9f1c06fbc14d08d3d1d21abd41590638db59b99c5ab4fd6a74b31d015a5fb", func := "loop.example/golayoctads/laws.FnExactPlaneLine", spec := "fnExactPlaneLine", inPlace := ["internal/reflectlite.ValueOf", "(internal/reflectlite.Value).Type", "(internal/reflectlite.Value).IsNil", "internal/reflectlite.TypeOf", "(internal/reflectlite.Value).Elem", "(internal/reflectlite.Value).Set"], unfollowed := true, recurses := true, named := ["loop.example/golayoctads/impl.bareColumns", "loop.example/golayoctads/impl.digitProducts", "errors.errorType"], apart := false, laid := [("errors.errorType", laid_errors_errorType), ("loop.example/golayoctads/impl.digitProducts", laid_loop_example_golayoctads_impl_digitProducts), ("loop.example/golayoctads/impl.bareColumns", laid_loop_example_golayoctads_impl_bareColumns)], narrowed := true }
def FnExactPlaneLineUptoSaid : Prop := fnExactPlaneLineUptoRow.holds Tryz.pinned (OpenSpec.upto fnExactPlaneLineSpec)

/-- 'laws.FnExactPlaneOn', WHERE WHAT IT READS IS OF BULK AT MOST 1048576: true; the input reads as it did. -/
def fnExactPlaneOnUptoRow : OpenClaim := { program := "ytaopcfiaffmfhabgreatdoor", sum := "71a9f1c06fbc14d08d3d1d21abd41590638db59b99c5ab4fd6a74b31d015a5fb", func := "loop.example/golayoctads/laws.FnExactPlaneOn", spec := "fnExactPlaneOn", inPlace := ["internal/reflectlite.ValueOf", "(internal/reflectlite.Value).Type", "(internal/reflectlite.Value).IsNil", "internal/reflectlite.TypeOf", "(internal/reflectlite.Value).Elem", "(internal/reflectlite.Value).Set"], unfollowed := true, recurses := true, named := ["loop.example/golayoctads/impl.bareColumns", "loop.example/golayoctads/impl.digitProducts", "errors.errorType"], apart := false, laid := [("errors.errorType", laid_errors_errorType), ("loop.example/golayoctads/impl.digitProducts", laid_loop_example_golayoctads_impl_digitProducts), ("loop.example/golayoctads/impl.bareColumns", laid_loop_example_golayoctads_impl_bareColumns)], narrowed := true }
def FnExactPlaneOnUptoSaid : Prop := fnExactPlaneOnUptoRow.holds Tryz.pinned (OpenSpec.upto fnExactPlaneOnSpec)

/-- 'laws.FnExactPlaneOval', WHERE WHAT IT READS IS OF BULK AT MOST 1048576: true; the input reads as it did. -/
def fnExactPlaneOvalUptoRow : OpenClaim := { program := "ytaopcfiaffmfhabgreatdoor", sum := "71a9f1c06fbc14d08d3d1d21abd41590638db59b99c5ab4fd6a74b31d015a5fb", func := "loop.example/golayoctads/laws.FnExactPlaneOval", spec := "fnExactPlaneOval", inPlace := ["internal/reflectlite.ValueOf", "(internal/reflectlite.Value).Type", "(internal/reflectlite.Value).IsNil", "internal/reflectlite.TypeOf", "(internal/reflectlite.Value).Elem", "(internal/reflectlite.Value).Set"], unfollowed := true, recurses := true, named := ["loop.example/golayoctads/impl.bareColumns", "loop.example/golayoctads/impl.digitProducts", "math/bits.deBruijn32tab", "errors.errorType"], apart := false, laid := [("math/bits.deBruijn32tab", laid_math_bits_deBruijn32tab), ("errors.errorType", laid_errors_errorType), ("loop.example/golayoctads/impl.digitProducts", laid_loop_example_golayoctads_impl_digitProducts), ("loop.example/golayoctads/impl.bareColumns", laid_loop_example_golayoctads_impl_bareColumns)], narrowed := true }
def FnExactPlaneOvalUptoSaid : Prop := fnExactPlaneOvalUptoRow.holds Tryz.pinned (OpenSpec.upto fnExactPlaneOvalSpec)

/-- 'laws.FnExactPlaneFour', WHERE WHAT IT READS IS OF BULK AT MOST 1048576: true; the input reads as it did. -/
def fnExactPlaneFourUptoRow : OpenClaim := { program := "ytaopcfiaffmfhabgreatdoor", sum := "71a9f1c06fbc14d08d3d1d21abd41590638db59b99c5ab4fd6a74b31d015a5fb", func := "loop.example/golayoctads/laws.FnExactPlaneFour", spec := "fnExactPlaneFour", inPlace := ["internal/reflectlite.ValueOf", "(internal/reflectlite.Value).Type", "(internal/reflectlite.Value).IsNil", "internal/reflectlite.TypeOf", "(internal/reflectlite.Value).Elem", "(internal/reflectlite.Value).Set"], unfollowed := true, recurses := true, named := ["loop.example/golayoctads/impl.bareColumns", "loop.example/golayoctads/impl.digitProducts", "math/bits.deBruijn32tab", "errors.errorType"], apart := false, laid := [("math/bits.deBruijn32tab", laid_math_bits_deBruijn32tab), ("errors.errorType", laid_errors_errorType), ("loop.example/golayoctads/impl.digitProducts", laid_loop_example_golayoctads_impl_digitProducts), ("loop.example/golayoctads/impl.bareColumns", laid_loop_example_golayoctads_impl_bareColumns)], narrowed := true }
def FnExactPlaneFourUptoSaid : Prop := fnExactPlaneFourUptoRow.holds Tryz.pinned (OpenSpec.upto fnExactPlaneFourSpec)

/-- 'laws.FnExactPlaneSub', WHERE WHAT IT READS IS OF BULK AT MOST 1048576: true; the input reads as it did. -/
def fnExactPlaneSubUptoRow : OpenClaim := { program := "ytaopcfiaffmfhabgreatdoor", sum := "71a9f1c06fbc14d08d3d1d21abd41590638db59b99c5ab4fd6a74b31d015a5fb", func := "loop.example/golayoctads/laws.FnExactPlaneSub", spec := "fnExactPlaneSub", inPlace := ["internal/reflectlite.ValueOf", "(internal/reflectlite.Value).Type", "(internal/reflectlite.Value).IsNil", "internal/reflectlite.TypeOf", "(internal/reflectlite.Value).Elem", "(internal/reflectlite.Value).Set"], unfollowed := true, recurses := true, named := ["loop.example/golayoctads/impl.bareColumns", "loop.example/golayoctads/impl.digitProducts", "math/bits.deBruijn32tab", "errors.errorType"], apart := false, laid := [("math/bits.deBruijn32tab", laid_math_bits_deBruijn32tab), ("errors.errorType", laid_errors_errorType), ("loop.example/golayoctads/impl.digitProducts", laid_loop_example_golayoctads_impl_digitProducts), ("loop.example/golayoctads/impl.bareColumns", laid_loop_example_golayoctads_impl_bareColumns)], narrowed := true }
def FnExactPlaneSubUptoSaid : Prop := fnExactPlaneSubUptoRow.holds Tryz.pinned (OpenSpec.upto fnExactPlaneSubSpec)

end Rows
end Go.Proofs.YtaopcfiaffmfhabGreatDoor
