/-
  NARROWER THAN 'FOR EVERY INPUT', by the rows' own cells (each row's printed sentence says how): FnExactSextetOf: laid · FnExactSextetValid: laid · FnExactSextetTable: laid · FnExactSextetKind: laid · FnExactSextetSum: laid · FnExactSextetOctads: laid · FnExactSextetHolds: laid · FnExactOctadTriangle: laid · FnExactOctadThrough: laid.
  DERIVED. THE GIVEN ROWS OF THIS SEAT. 9 by the template 'for every input the law returns true; each argument reads behind the call as it read before'; 0 by the template 'total and deterministic' (their statements: YtagniijhbiglaabDoorTotals.lean).
  GIVEN WITH THE SEED: the statements are not yours to turn. If you find one false, say at which input.
  Laid BY PROGRAM, IN A SANDBOX (cutbox-rows.mjs): the forced cells as the released guide's own fill.sh prints them over the translation e76778697399d404… (all of the seat's roots in one cut). By AI agents, Wed Nov 11 2026. No macro, syntax, notation, axiom, sorry.
-/
import Derived.Test.YtagniijhbiglaabDoorChecked
import GoSem.Claim
import GoSem.ClaimJoined
import GoSem.ClaimMapViews
import Derived.JoinedTies
import Derived.KernelRfl
namespace Go.Proofs.YtagniijhbiglaabDoor
/- THE CELL 'sum', in the pinned program and in every row, IS THE sha256 OF THE DUMP (.gsa) THAT YtagniijhbiglaabDoorProg.lean LOADS. Nothing in Lean hashes anything: it is a label: what it is worth is what the hold of that sum in a sandbox is worth. -/
noncomputable def Tryd.pinned : Pinned := { name := "ytagniijhbiglaabdoor", sum := "e76778697399d404941dc51f3ba7f26adffafc8be9c70d930a36ef17b2cb456c", checked := Tryd.checked }
namespace Rows
def none {H : Type} : Left H := { results := [], args := [] }

/- WHAT THE LISTED PACKAGE-LEVEL VARIABLES READ AS WHEN THE CALL BEGINS. Each datum BY PROGRAM (the guide's laid-datum.mjs) off the statement by which the dump's own 'gosem.cut.vars' lays the variable. In a bare row this is a premise. The card (YtagniijhbiglaabDoorCards.lean) ties it to the program's text. -/
def laid_loop_example_golayoctads_impl_digitProducts {H : Type} : DataW H := .agg [.agg [.lit (.int .u8 0), .lit (.int .u8 0), .lit (.int .u8 0), .lit (.int .u8 0)], .agg [.lit (.int .u8 0), .lit (.int .u8 1), .lit (.int .u8 2), .lit (.int .u8 3)], .agg [.lit (.int .u8 0), .lit (.int .u8 2), .lit (.int .u8 3), .lit (.int .u8 1)], .agg [.lit (.int .u8 0), .lit (.int .u8 3), .lit (.int .u8 1), .lit (.int .u8 2)]]
def laid_loop_example_golayoctads_impl_bareColumns {H : Type} : DataW H := .agg [.agg [.lit (.int .u32 0), .lit (.int .u32 12), .lit (.int .u32 10), .lit (.int .u32 6)], .agg [.lit (.int .u32 14), .lit (.int .u32 2), .lit (.int .u32 4), .lit (.int .u32 8)]]
def laid_math_bits_deBruijn32tab {H : Type} : DataW H := .agg [.lit (.int .u8 0), .lit (.int .u8 1), .lit (.int .u8 28), .lit (.int .u8 2), .lit (.int .u8 29), .lit (.int .u8 14), .lit (.int .u8 24), .lit (.int .u8 3), .lit (.int .u8 30), .lit (.int .u8 22), .lit (.int .u8 20), .lit (.int .u8 15), .lit (.int .u8 25), .lit (.int .u8 17), .lit (.int .u8 4), .lit (.int .u8 8), .lit (.int .u8 31), .lit (.int .u8 27), .lit (.int .u8 13), .lit (.int .u8 23), .lit (.int .u8 21), .lit (.int .u8 19), .lit (.int .u8 16), .lit (.int .u8 7), .lit (.int .u8 26), .lit (.int .u8 12), .lit (.int .u8 18), .lit (.int .u8 6), .lit (.int .u8 11), .lit (.int .u8 5), .lit (.int .u8 10), .lit (.int .u8 9)]

/-- 'laws.FnExactSextetOf': WHATEVER THE INPUT: true; the input reads as it did. -/
def fnExactSextetOfSpec : ChangeSpec := { name := "fnExactSextetOf", vars := ["loop.example/golayoctads/impl.bareColumns", "loop.example/golayoctads/impl.digitProducts"], fn := fun _ => fun
  | [d, g1, g2] => { results := [.lit (.bool true)], args := [d], vars := [g1, g2] }
  | _ => none }
def fnExactSextetOfRow : OpenClaim := { program := "ytagniijhbiglaabdoor", sum := "e76778697399d404941dc51f3ba7f26adffafc8be9c70d930a36ef17b2cb456c", func := "loop.example/golayoctads/laws.FnExactSextetOf", spec := "fnExactSextetOf", unfollowed := true, recurses := true, named := ["loop.example/golayoctads/impl.bareColumns", "loop.example/golayoctads/impl.digitProducts"], plainKeys := false, apart := false, laid := [("loop.example/golayoctads/impl.digitProducts", laid_loop_example_golayoctads_impl_digitProducts), ("loop.example/golayoctads/impl.bareColumns", laid_loop_example_golayoctads_impl_bareColumns)] }
def FnExactSextetOfSaid : Prop := fnExactSextetOfRow.holds Tryd.pinned (OpenSpec.ofChange fnExactSextetOfSpec)

/-- ITS FALSE NEIGHBOUR: 'it returns false'. Refute it at one input. -/
def fnExactSextetOfWrong : ChangeSpec := { name := "fnExactSextetOf", vars := ["loop.example/golayoctads/impl.bareColumns", "loop.example/golayoctads/impl.digitProducts"], fn := fun _ => fun
  | [d, g1, g2] => { results := [.lit (.bool false)], args := [d], vars := [g1, g2] }
  | _ => none }
def FnExactSextetOfWrongFalsely : Prop := fnExactSextetOfRow.holds Tryd.pinned (OpenSpec.ofChange fnExactSextetOfWrong)

/-- 'laws.FnExactSextetValid': WHATEVER THE INPUT: true; the input reads as it did. -/
def fnExactSextetValidSpec : ChangeSpec := { name := "fnExactSextetValid", vars := ["loop.example/golayoctads/impl.bareColumns", "loop.example/golayoctads/impl.digitProducts"], fn := fun _ => fun
  | [d, g1, g2] => { results := [.lit (.bool true)], args := [d], vars := [g1, g2] }
  | _ => none }
def fnExactSextetValidRow : OpenClaim := { program := "ytagniijhbiglaabdoor", sum := "e76778697399d404941dc51f3ba7f26adffafc8be9c70d930a36ef17b2cb456c", func := "loop.example/golayoctads/laws.FnExactSextetValid", spec := "fnExactSextetValid", unfollowed := true, recurses := true, named := ["loop.example/golayoctads/impl.bareColumns", "loop.example/golayoctads/impl.digitProducts"], plainKeys := false, apart := false, laid := [("loop.example/golayoctads/impl.digitProducts", laid_loop_example_golayoctads_impl_digitProducts), ("loop.example/golayoctads/impl.bareColumns", laid_loop_example_golayoctads_impl_bareColumns)] }
def FnExactSextetValidSaid : Prop := fnExactSextetValidRow.holds Tryd.pinned (OpenSpec.ofChange fnExactSextetValidSpec)

/-- ITS FALSE NEIGHBOUR: 'it returns false'. Refute it at one input. -/
def fnExactSextetValidWrong : ChangeSpec := { name := "fnExactSextetValid", vars := ["loop.example/golayoctads/impl.bareColumns", "loop.example/golayoctads/impl.digitProducts"], fn := fun _ => fun
  | [d, g1, g2] => { results := [.lit (.bool false)], args := [d], vars := [g1, g2] }
  | _ => none }
def FnExactSextetValidWrongFalsely : Prop := fnExactSextetValidRow.holds Tryd.pinned (OpenSpec.ofChange fnExactSextetValidWrong)

/-- 'laws.FnExactSextetTable': WHATEVER THE INPUT: true; the input reads as it did. -/
def fnExactSextetTableSpec : ChangeSpec := { name := "fnExactSextetTable", vars := ["loop.example/golayoctads/impl.bareColumns", "loop.example/golayoctads/impl.digitProducts"], fn := fun _ => fun
  | [d1, d2, g1, g2] => { results := [.lit (.bool true)], args := [d1, d2], vars := [g1, g2] }
  | _ => none }
def fnExactSextetTableRow : OpenClaim := { program := "ytagniijhbiglaabdoor", sum := "e76778697399d404941dc51f3ba7f26adffafc8be9c70d930a36ef17b2cb456c", func := "loop.example/golayoctads/laws.FnExactSextetTable", spec := "fnExactSextetTable", unfollowed := true, recurses := true, named := ["loop.example/golayoctads/impl.bareColumns", "loop.example/golayoctads/impl.digitProducts"], plainKeys := false, apart := false, laid := [("loop.example/golayoctads/impl.digitProducts", laid_loop_example_golayoctads_impl_digitProducts), ("loop.example/golayoctads/impl.bareColumns", laid_loop_example_golayoctads_impl_bareColumns)] }
def FnExactSextetTableSaid : Prop := fnExactSextetTableRow.holds Tryd.pinned (OpenSpec.ofChange fnExactSextetTableSpec)

/-- ITS FALSE NEIGHBOUR: 'it returns false'. Refute it at one input. -/
def fnExactSextetTableWrong : ChangeSpec := { name := "fnExactSextetTable", vars := ["loop.example/golayoctads/impl.bareColumns", "loop.example/golayoctads/impl.digitProducts"], fn := fun _ => fun
  | [d1, d2, g1, g2] => { results := [.lit (.bool false)], args := [d1, d2], vars := [g1, g2] }
  | _ => none }
def FnExactSextetTableWrongFalsely : Prop := fnExactSextetTableRow.holds Tryd.pinned (OpenSpec.ofChange fnExactSextetTableWrong)

/-- 'laws.FnExactSextetKind': WHATEVER THE INPUT: true; the input reads as it did. -/
def fnExactSextetKindSpec : ChangeSpec := { name := "fnExactSextetKind", vars := ["loop.example/golayoctads/impl.bareColumns", "loop.example/golayoctads/impl.digitProducts"], fn := fun _ => fun
  | [d1, d2, g1, g2] => { results := [.lit (.bool true)], args := [d1, d2], vars := [g1, g2] }
  | _ => none }
def fnExactSextetKindRow : OpenClaim := { program := "ytagniijhbiglaabdoor", sum := "e76778697399d404941dc51f3ba7f26adffafc8be9c70d930a36ef17b2cb456c", func := "loop.example/golayoctads/laws.FnExactSextetKind", spec := "fnExactSextetKind", unfollowed := true, recurses := true, named := ["loop.example/golayoctads/impl.bareColumns", "loop.example/golayoctads/impl.digitProducts"], plainKeys := false, apart := false, laid := [("loop.example/golayoctads/impl.digitProducts", laid_loop_example_golayoctads_impl_digitProducts), ("loop.example/golayoctads/impl.bareColumns", laid_loop_example_golayoctads_impl_bareColumns)] }
def FnExactSextetKindSaid : Prop := fnExactSextetKindRow.holds Tryd.pinned (OpenSpec.ofChange fnExactSextetKindSpec)

/-- ITS FALSE NEIGHBOUR: 'it returns false'. Refute it at one input. -/
def fnExactSextetKindWrong : ChangeSpec := { name := "fnExactSextetKind", vars := ["loop.example/golayoctads/impl.bareColumns", "loop.example/golayoctads/impl.digitProducts"], fn := fun _ => fun
  | [d1, d2, g1, g2] => { results := [.lit (.bool false)], args := [d1, d2], vars := [g1, g2] }
  | _ => none }
def FnExactSextetKindWrongFalsely : Prop := fnExactSextetKindRow.holds Tryd.pinned (OpenSpec.ofChange fnExactSextetKindWrong)

/-- 'laws.FnExactSextetSum': WHATEVER THE INPUT: true; the input reads as it did. -/
def fnExactSextetSumSpec : ChangeSpec := { name := "fnExactSextetSum", vars := ["loop.example/golayoctads/impl.bareColumns", "loop.example/golayoctads/impl.digitProducts"], fn := fun _ => fun
  | [d1, d2, g1, g2] => { results := [.lit (.bool true)], args := [d1, d2], vars := [g1, g2] }
  | _ => none }
def fnExactSextetSumRow : OpenClaim := { program := "ytagniijhbiglaabdoor", sum := "e76778697399d404941dc51f3ba7f26adffafc8be9c70d930a36ef17b2cb456c", func := "loop.example/golayoctads/laws.FnExactSextetSum", spec := "fnExactSextetSum", unfollowed := true, recurses := true, named := ["loop.example/golayoctads/impl.bareColumns", "loop.example/golayoctads/impl.digitProducts"], plainKeys := false, apart := false, laid := [("loop.example/golayoctads/impl.digitProducts", laid_loop_example_golayoctads_impl_digitProducts), ("loop.example/golayoctads/impl.bareColumns", laid_loop_example_golayoctads_impl_bareColumns)] }
def FnExactSextetSumSaid : Prop := fnExactSextetSumRow.holds Tryd.pinned (OpenSpec.ofChange fnExactSextetSumSpec)

/-- ITS FALSE NEIGHBOUR: 'it returns false'. Refute it at one input. -/
def fnExactSextetSumWrong : ChangeSpec := { name := "fnExactSextetSum", vars := ["loop.example/golayoctads/impl.bareColumns", "loop.example/golayoctads/impl.digitProducts"], fn := fun _ => fun
  | [d1, d2, g1, g2] => { results := [.lit (.bool false)], args := [d1, d2], vars := [g1, g2] }
  | _ => none }
def FnExactSextetSumWrongFalsely : Prop := fnExactSextetSumRow.holds Tryd.pinned (OpenSpec.ofChange fnExactSextetSumWrong)

/-- 'laws.FnExactSextetOctads': WHATEVER THE INPUT: true; the input reads as it did. -/
def fnExactSextetOctadsSpec : ChangeSpec := { name := "fnExactSextetOctads", vars := ["loop.example/golayoctads/impl.bareColumns", "loop.example/golayoctads/impl.digitProducts"], fn := fun _ => fun
  | [d, g1, g2] => { results := [.lit (.bool true)], args := [d], vars := [g1, g2] }
  | _ => none }
def fnExactSextetOctadsRow : OpenClaim := { program := "ytagniijhbiglaabdoor", sum := "e76778697399d404941dc51f3ba7f26adffafc8be9c70d930a36ef17b2cb456c", func := "loop.example/golayoctads/laws.FnExactSextetOctads", spec := "fnExactSextetOctads", unfollowed := true, recurses := true, named := ["loop.example/golayoctads/impl.bareColumns", "loop.example/golayoctads/impl.digitProducts"], plainKeys := false, apart := false, laid := [("loop.example/golayoctads/impl.digitProducts", laid_loop_example_golayoctads_impl_digitProducts), ("loop.example/golayoctads/impl.bareColumns", laid_loop_example_golayoctads_impl_bareColumns)] }
def FnExactSextetOctadsSaid : Prop := fnExactSextetOctadsRow.holds Tryd.pinned (OpenSpec.ofChange fnExactSextetOctadsSpec)

/-- ITS FALSE NEIGHBOUR: 'it returns false'. Refute it at one input. -/
def fnExactSextetOctadsWrong : ChangeSpec := { name := "fnExactSextetOctads", vars := ["loop.example/golayoctads/impl.bareColumns", "loop.example/golayoctads/impl.digitProducts"], fn := fun _ => fun
  | [d, g1, g2] => { results := [.lit (.bool false)], args := [d], vars := [g1, g2] }
  | _ => none }
def FnExactSextetOctadsWrongFalsely : Prop := fnExactSextetOctadsRow.holds Tryd.pinned (OpenSpec.ofChange fnExactSextetOctadsWrong)

/-- 'laws.FnExactSextetHolds': WHATEVER THE INPUT: true; the input reads as it did. -/
def fnExactSextetHoldsSpec : ChangeSpec := { name := "fnExactSextetHolds", vars := ["loop.example/golayoctads/impl.bareColumns", "loop.example/golayoctads/impl.digitProducts"], fn := fun _ => fun
  | [d1, d2, g1, g2] => { results := [.lit (.bool true)], args := [d1, d2], vars := [g1, g2] }
  | _ => none }
def fnExactSextetHoldsRow : OpenClaim := { program := "ytagniijhbiglaabdoor", sum := "e76778697399d404941dc51f3ba7f26adffafc8be9c70d930a36ef17b2cb456c", func := "loop.example/golayoctads/laws.FnExactSextetHolds", spec := "fnExactSextetHolds", unfollowed := true, recurses := true, named := ["loop.example/golayoctads/impl.bareColumns", "loop.example/golayoctads/impl.digitProducts"], plainKeys := false, apart := false, laid := [("loop.example/golayoctads/impl.digitProducts", laid_loop_example_golayoctads_impl_digitProducts), ("loop.example/golayoctads/impl.bareColumns", laid_loop_example_golayoctads_impl_bareColumns)] }
def FnExactSextetHoldsSaid : Prop := fnExactSextetHoldsRow.holds Tryd.pinned (OpenSpec.ofChange fnExactSextetHoldsSpec)

/-- ITS FALSE NEIGHBOUR: 'it returns false'. Refute it at one input. -/
def fnExactSextetHoldsWrong : ChangeSpec := { name := "fnExactSextetHolds", vars := ["loop.example/golayoctads/impl.bareColumns", "loop.example/golayoctads/impl.digitProducts"], fn := fun _ => fun
  | [d1, d2, g1, g2] => { results := [.lit (.bool false)], args := [d1, d2], vars := [g1, g2] }
  | _ => none }
def FnExactSextetHoldsWrongFalsely : Prop := fnExactSextetHoldsRow.holds Tryd.pinned (OpenSpec.ofChange fnExactSextetHoldsWrong)

/-- 'laws.FnExactOctadTriangle': WHATEVER THE INPUT: true; the input reads as it did. -/
def fnExactOctadTriangleSpec : ChangeSpec := { name := "fnExactOctadTriangle", vars := ["loop.example/golayoctads/impl.bareColumns", "loop.example/golayoctads/impl.digitProducts"], fn := fun _ => fun
  | [d, g1, g2] => { results := [.lit (.bool true)], args := [d], vars := [g1, g2] }
  | _ => none }
def fnExactOctadTriangleRow : OpenClaim := { program := "ytagniijhbiglaabdoor", sum := "e76778697399d404941dc51f3ba7f26adffafc8be9c70d930a36ef17b2cb456c", func := "loop.example/golayoctads/laws.FnExactOctadTriangle", spec := "fnExactOctadTriangle", unfollowed := true, recurses := true, named := ["math/bits.deBruijn32tab", "loop.example/golayoctads/impl.bareColumns", "loop.example/golayoctads/impl.digitProducts"], plainKeys := false, apart := false, laid := [("math/bits.deBruijn32tab", laid_math_bits_deBruijn32tab), ("loop.example/golayoctads/impl.digitProducts", laid_loop_example_golayoctads_impl_digitProducts), ("loop.example/golayoctads/impl.bareColumns", laid_loop_example_golayoctads_impl_bareColumns)] }
def FnExactOctadTriangleSaid : Prop := fnExactOctadTriangleRow.holds Tryd.pinned (OpenSpec.ofChange fnExactOctadTriangleSpec)

/-- ITS FALSE NEIGHBOUR: 'it returns false'. Refute it at one input. -/
def fnExactOctadTriangleWrong : ChangeSpec := { name := "fnExactOctadTriangle", vars := ["loop.example/golayoctads/impl.bareColumns", "loop.example/golayoctads/impl.digitProducts"], fn := fun _ => fun
  | [d, g1, g2] => { results := [.lit (.bool false)], args := [d], vars := [g1, g2] }
  | _ => none }
def FnExactOctadTriangleWrongFalsely : Prop := fnExactOctadTriangleRow.holds Tryd.pinned (OpenSpec.ofChange fnExactOctadTriangleWrong)

/-- 'laws.FnExactOctadThrough': WHATEVER THE INPUT: true; the input reads as it did. -/
def fnExactOctadThroughSpec : ChangeSpec := { name := "fnExactOctadThrough", vars := ["loop.example/golayoctads/impl.bareColumns", "loop.example/golayoctads/impl.digitProducts"], fn := fun _ => fun
  | [d, g1, g2] => { results := [.lit (.bool true)], args := [d], vars := [g1, g2] }
  | _ => none }
def fnExactOctadThroughRow : OpenClaim := { program := "ytagniijhbiglaabdoor", sum := "e76778697399d404941dc51f3ba7f26adffafc8be9c70d930a36ef17b2cb456c", func := "loop.example/golayoctads/laws.FnExactOctadThrough", spec := "fnExactOctadThrough", unfollowed := true, recurses := true, named := ["loop.example/golayoctads/impl.bareColumns", "loop.example/golayoctads/impl.digitProducts", "math/bits.deBruijn32tab"], plainKeys := false, apart := false, laid := [("math/bits.deBruijn32tab", laid_math_bits_deBruijn32tab), ("loop.example/golayoctads/impl.digitProducts", laid_loop_example_golayoctads_impl_digitProducts), ("loop.example/golayoctads/impl.bareColumns", laid_loop_example_golayoctads_impl_bareColumns)] }
def FnExactOctadThroughSaid : Prop := fnExactOctadThroughRow.holds Tryd.pinned (OpenSpec.ofChange fnExactOctadThroughSpec)

/-- ITS FALSE NEIGHBOUR: 'it returns false'. Refute it at one input. -/
def fnExactOctadThroughWrong : ChangeSpec := { name := "fnExactOctadThrough", vars := ["loop.example/golayoctads/impl.bareColumns", "loop.example/golayoctads/impl.digitProducts"], fn := fun _ => fun
  | [d, g1, g2] => { results := [.lit (.bool false)], args := [d], vars := [g1, g2] }
  | _ => none }
def FnExactOctadThroughWrongFalsely : Prop := fnExactOctadThroughRow.holds Tryd.pinned (OpenSpec.ofChange fnExactOctadThroughWrong)

/- THE SECOND FORM. 'bulk': how many values and letters a reading holds, each counted each time it is reached (what is shared counts as often as it is met; a slice's spare places count too). A statement '..UptoSaid' is the law's where the arguments, and the package variables that the reading takes, are together of bulk at most 1048576: NARROWER than '..Said'. Prove '..Said' where nothing that the law and all that it calls make is longer than what came in: it says more and counts as full. Else prove '..UptoSaid'. A law counts once. -/
mutual
def uptoBulk {H : Type} : DataW H → Nat
  | .lit (.string bytes) => bytes.length + 1
  | .lit _ => 1
  | .nil => 1
  | .ptr d => uptoBulk d + 1
  | .slice elems spare => uptoBulkAll elems + uptoBulkAll spare + 1
  | .agg parts => uptoBulkAll parts + 1
  | .iface _ d => uptoBulk d + 1
  | .map entries => uptoBulkEntries entries + 1
  | .held _ => 1
def uptoBulkAll {H : Type} : List (DataW H) → Nat
  | [] => 0
  | d :: r => uptoBulk d + uptoBulkAll r
def uptoBulkEntries {H : Type} : List (Lit × DataW H) → Nat
  | [] => 0
  | x :: r => uptoBulkEntry x + uptoBulkEntries r
def uptoBulkEntry {H : Type} : Lit × DataW H → Nat
  | (.string bytes, d) => bytes.length + uptoBulk d + 1
  | (_, d) => uptoBulk d + 1
 end
def uptoSmall : (H : Type) → List (DataW H) → Bool := fun _ ds => decide (uptoBulkAll ds ≤ 1048576)
def OpenSpec.upto (s : _root_.Go.ChangeSpec) : _root_.Go.OpenSpec := { _root_.Go.OpenSpec.ofChange s with cond := some uptoSmall }

/-- 'laws.FnExactSextetOf', WHERE WHAT IT READS IS OF BULK AT MOST 1048576: true; the input reads as it did. -/
def fnExactSextetOfUptoRow : OpenClaim := { program := "ytagniijhbiglaabdoor", sum := "e76778697399d404941dc51f3ba7f26adffafc8be9c70d930a36ef17b2cb456c", func := "loop.example/golayoctads/laws.FnExactSextetOf", spec := "fnExactSextetOf", unfollowed := true, recurses := true, named := ["loop.example/golayoctads/impl.bareColumns", "loop.example/golayoctads/impl.digitProducts"], plainKeys := false, apart := false, laid := [("loop.example/golayoctads/impl.digitProducts", laid_loop_example_golayoctads_impl_digitProducts), ("loop.example/golayoctads/impl.bareColumns", laid_loop_example_golayoctads_impl_bareColumns)], narrowed := true }
def FnExactSextetOfUptoSaid : Prop := fnExactSextetOfUptoRow.holds Tryd.pinned (OpenSpec.upto fnExactSextetOfSpec)

/-- 'laws.FnExactSextetValid', WHERE WHAT IT READS IS OF BULK AT MOST 1048576: true; the input reads as it did. -/
def fnExactSextetValidUptoRow : OpenClaim := { program := "ytagniijhbiglaabdoor", sum := "e76778697399d404941dc51f3ba7f26adffafc8be9c70d930a36ef17b2cb456c", func := "loop.example/golayoctads/laws.FnExactSextetValid", spec := "fnExactSextetValid", unfollowed := true, recurses := true, named := ["loop.example/golayoctads/impl.bareColumns", "loop.example/golayoctads/impl.digitProducts"], plainKeys := false, apart := false, laid := [("loop.example/golayoctads/impl.digitProducts", laid_loop_example_golayoctads_impl_digitProducts), ("loop.example/golayoctads/impl.bareColumns", laid_loop_example_golayoctads_impl_bareColumns)], narrowed := true }
def FnExactSextetValidUptoSaid : Prop := fnExactSextetValidUptoRow.holds Tryd.pinned (OpenSpec.upto fnExactSextetValidSpec)

/-- 'laws.FnExactSextetTable', WHERE WHAT IT READS IS OF BULK AT MOST 1048576: true; the input reads as it did. -/
def fnExactSextetTableUptoRow : OpenClaim := { program := "ytagniijhbiglaabdoor", sum := "e76778697399d404941dc51f3ba7f26adffafc8be9c70d930a36ef17b2cb456c", func := "loop.example/golayoctads/laws.FnExactSextetTable", spec := "fnExactSextetTable", unfollowed := true, recurses := true, named := ["loop.example/golayoctads/impl.bareColumns", "loop.example/golayoctads/impl.digitProducts"], plainKeys := false, apart := false, laid := [("loop.example/golayoctads/impl.digitProducts", laid_loop_example_golayoctads_impl_digitProducts), ("loop.example/golayoctads/impl.bareColumns", laid_loop_example_golayoctads_impl_bareColumns)], narrowed := true }
def FnExactSextetTableUptoSaid : Prop := fnExactSextetTableUptoRow.holds Tryd.pinned (OpenSpec.upto fnExactSextetTableSpec)

/-- 'laws.FnExactSextetKind', WHERE WHAT IT READS IS OF BULK AT MOST 1048576: true; the input reads as it did. -/
def fnExactSextetKindUptoRow : OpenClaim := { program := "ytagniijhbiglaabdoor", sum := "e76778697399d404941dc51f3ba7f26adffafc8be9c70d930a36ef17b2cb456c", func := "loop.example/golayoctads/laws.FnExactSextetKind", spec := "fnExactSextetKind", unfollowed := true, recurses := true, named := ["loop.example/golayoctads/impl.bareColumns", "loop.example/golayoctads/impl.digitProducts"], plainKeys := false, apart := false, laid := [("loop.example/golayoctads/impl.digitProducts", laid_loop_example_golayoctads_impl_digitProducts), ("loop.example/golayoctads/impl.bareColumns", laid_loop_example_golayoctads_impl_bareColumns)], narrowed := true }
def FnExactSextetKindUptoSaid : Prop := fnExactSextetKindUptoRow.holds Tryd.pinned (OpenSpec.upto fnExactSextetKindSpec)

/-- 'laws.FnExactSextetSum', WHERE WHAT IT READS IS OF BULK AT MOST 1048576: true; the input reads as it did. -/
def fnExactSextetSumUptoRow : OpenClaim := { program := "ytagniijhbiglaabdoor", sum := "e76778697399d404941dc51f3ba7f26adffafc8be9c70d930a36ef17b2cb456c", func := "loop.example/golayoctads/laws.FnExactSextetSum", spec := "fnExactSextetSum", unfollowed := true, recurses := true, named := ["loop.example/golayoctads/impl.bareColumns", "loop.example/golayoctads/impl.digitProducts"], plainKeys := false, apart := false, laid := [("loop.example/golayoctads/impl.digitProducts", laid_loop_example_golayoctads_impl_digitProducts), ("loop.example/golayoctads/impl.bareColumns", laid_loop_example_golayoctads_impl_bareColumns)], narrowed := true }
def FnExactSextetSumUptoSaid : Prop := fnExactSextetSumUptoRow.holds Tryd.pinned (OpenSpec.upto fnExactSextetSumSpec)

/-- 'laws.FnExactSextetOctads', WHERE WHAT IT READS IS OF BULK AT MOST 1048576: true; the input reads as it did. -/
def fnExactSextetOctadsUptoRow : OpenClaim := { program := "ytagniijhbiglaabdoor", sum := "e76778697399d404941dc51f3ba7f26adffafc8be9c70d930a36ef17b2cb456c", func := "loop.example/golayoctads/laws.FnExactSextetOctads", spec := "fnExactSextetOctads", unfollowed := true, recurses := true, named := ["loop.example/golayoctads/impl.bareColumns", "loop.example/golayoctads/impl.digitProducts"], plainKeys := false, apart := false, laid := [("loop.example/golayoctads/impl.digitProducts", laid_loop_example_golayoctads_impl_digitProducts), ("loop.example/golayoctads/impl.bareColumns", laid_loop_example_golayoctads_impl_bareColumns)], narrowed := true }
def FnExactSextetOctadsUptoSaid : Prop := fnExactSextetOctadsUptoRow.holds Tryd.pinned (OpenSpec.upto fnExactSextetOctadsSpec)

/-- 'laws.FnExactSextetHolds', WHERE WHAT IT READS IS OF BULK AT MOST 1048576: true; the input reads as it did. -/
def fnExactSextetHoldsUptoRow : OpenClaim := { program := "ytagniijhbiglaabdoor", sum := "e76778697399d404941dc51f3ba7f26adffafc8be9c70d930a36ef17b2cb456c", func := "loop.example/golayoctads/laws.FnExactSextetHolds", spec := "fnExactSextetHolds", unfollowed := true, recurses := true, named := ["loop.example/golayoctads/impl.bareColumns", "loop.example/golayoctads/impl.digitProducts"], plainKeys := false, apart := false, laid := [("loop.example/golayoctads/impl.digitProducts", laid_loop_example_golayoctads_impl_digitProducts), ("loop.example/golayoctads/impl.bareColumns", laid_loop_example_golayoctads_impl_bareColumns)], narrowed := true }
def FnExactSextetHoldsUptoSaid : Prop := fnExactSextetHoldsUptoRow.holds Tryd.pinned (OpenSpec.upto fnExactSextetHoldsSpec)

/-- 'laws.FnExactOctadTriangle', WHERE WHAT IT READS IS OF BULK AT MOST 1048576: true; the input reads as it did. -/
def fnExactOctadTriangleUptoRow : OpenClaim := { program := "ytagniijhbiglaabdoor", sum := "e76778697399d404941dc51f3ba7f26adffafc8be9c70d930a36ef17b2cb456c", func := "loop.example/golayoctads/laws.FnExactOctadTriangle", spec := "fnExactOctadTriangle", unfollowed := true, recurses := true, named := ["math/bits.deBruijn32tab", "loop.example/golayoctads/impl.bareColumns", "loop.example/golayoctads/impl.digitProducts"], plainKeys := false, apart := false, laid := [("math/bits.deBruijn32tab", laid_math_bits_deBruijn32tab), ("loop.example/golayoctads/impl.digitProducts", laid_loop_example_golayoctads_impl_digitProducts), ("loop.example/golayoctads/impl.bareColumns", laid_loop_example_golayoctads_impl_bareColumns)], narrowed := true }
def FnExactOctadTriangleUptoSaid : Prop := fnExactOctadTriangleUptoRow.holds Tryd.pinned (OpenSpec.upto fnExactOctadTriangleSpec)

/-- 'laws.FnExactOctadThrough', WHERE WHAT IT READS IS OF BULK AT MOST 1048576: true; the input reads as it did. -/
def fnExactOctadThroughUptoRow : OpenClaim := { program := "ytagniijhbiglaabdoor", sum := "e76778697399d404941dc51f3ba7f26adffafc8be9c70d930a36ef17b2cb456c", func := "loop.example/golayoctads/laws.FnExactOctadThrough", spec := "fnExactOctadThrough", unfollowed := true, recurses := true, named := ["loop.example/golayoctads/impl.bareColumns", "loop.example/golayoctads/impl.digitProducts", "math/bits.deBruijn32tab"], plainKeys := false, apart := false, laid := [("math/bits.deBruijn32tab", laid_math_bits_deBruijn32tab), ("loop.example/golayoctads/impl.digitProducts", laid_loop_example_golayoctads_impl_digitProducts), ("loop.example/golayoctads/impl.bareColumns", laid_loop_example_golayoctads_impl_bareColumns)], narrowed := true }
def FnExactOctadThroughUptoSaid : Prop := fnExactOctadThroughUptoRow.holds Tryd.pinned (OpenSpec.upto fnExactOctadThroughSpec)

end Rows
end Go.Proofs.YtagniijhbiglaabDoor
