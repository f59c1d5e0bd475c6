/-
  NARROWER THAN 'FOR EVERY INPUT', by the rows' own cells (each row's printed sentence says how): FnDigitTimes: laid · FnHexOf: laid · FnHexIn: laid · FnHexAdd: laid · FnHexTimes: laid · FnHexInner: laid · FnHexNear: laid · FnExactDigitTimes: laid · FnExactHexOf: laid · FnExactHexIn: laid · FnExactHexTimes: laid · FnExactHexInner: laid · FnExactHexNear: laid.
  DERIVED. THE GIVEN ROWS OF THIS SEAT. 13 by the template 'for every input the law returns true; each argument reads behind the call as it read before'; 0 by the template 'total and deterministic' (their statements: YtojjbdpoecmaeaaDoorTotals.lean).
  GIVEN WITH THE SEED: the statements are not yours to turn. If you find one false, say at which input.
  Laid BY PROGRAM, IN A SANDBOX (cutbox-rows.mjs): the forced cells as the released guide's own fill.sh prints them over the translation c35f34170a1dbb0a… (all of the seat's roots in one cut). By AI agents, Wed Nov 11 2026. No macro, syntax, notation, axiom, sorry.
-/
import Derived.Test.YtojjbdpoecmaeaaDoorChecked
import GoSem.Claim
import GoSem.ClaimJoined
import GoSem.ClaimMapViews
import Derived.JoinedTies
import Derived.KernelRfl
namespace Go.Proofs.YtojjbdpoecmaeaaDoor
/- THE CELL 'sum', in the pinned program and in every row, IS THE sha256 OF THE DUMP (.gsa) THAT YtojjbdpoecmaeaaDoorProg.lean LOADS. Nothing in Lean hashes anything: it is a label: what it is worth is what the hold of that sum in a sandbox is worth. -/
noncomputable def Tryd.pinned : Pinned := { name := "ytojjbdpoecmaeaadoor", sum := "c35f34170a1dbb0aa349091ae1283c4f30c5949237940da56def27f9b7f5181d", checked := Tryd.checked }
namespace Rows
def none {H : Type} : Left H := { results := [], args := [] }

/- WHAT THE LISTED PACKAGE-LEVEL VARIABLES READ AS WHEN THE CALL BEGINS. Each datum BY PROGRAM (the guide's laid-datum.mjs) off the statement by which the dump's own 'gosem.cut.vars' lays the variable. In a bare row this is a premise. The card (YtojjbdpoecmaeaaDoorCards.lean) ties it to the program's text. -/
def laid_loop_example_golayoctads_impl_digitProducts {H : Type} : DataW H := .agg [.agg [.lit (.int .u8 0), .lit (.int .u8 0), .lit (.int .u8 0), .lit (.int .u8 0)], .agg [.lit (.int .u8 0), .lit (.int .u8 1), .lit (.int .u8 2), .lit (.int .u8 3)], .agg [.lit (.int .u8 0), .lit (.int .u8 2), .lit (.int .u8 3), .lit (.int .u8 1)], .agg [.lit (.int .u8 0), .lit (.int .u8 3), .lit (.int .u8 1), .lit (.int .u8 2)]]

/-- 'laws.FnDigitTimes': WHATEVER THE INPUT: true; the input reads as it did. -/
def fnDigitTimesSpec : ChangeSpec := { name := "fnDigitTimes", vars := ["loop.example/golayoctads/impl.digitProducts"], fn := fun _ => fun
  | [d, g1] => { results := [.lit (.bool true)], args := [d], vars := [g1] }
  | _ => none }
def fnDigitTimesRow : OpenClaim := { program := "ytojjbdpoecmaeaadoor", sum := "c35f34170a1dbb0aa349091ae1283c4f30c5949237940da56def27f9b7f5181d", func := "loop.example/golayoctads/laws.FnDigitTimes", spec := "fnDigitTimes", named := ["loop.example/golayoctads/impl.digitProducts"], apart := false, laid := [("loop.example/golayoctads/impl.digitProducts", laid_loop_example_golayoctads_impl_digitProducts)] }
def FnDigitTimesSaid : Prop := fnDigitTimesRow.holds Tryd.pinned (OpenSpec.ofChange fnDigitTimesSpec)

/-- ITS FALSE NEIGHBOUR: 'it returns false'. Refute it at one input. -/
def fnDigitTimesWrong : ChangeSpec := { name := "fnDigitTimes", vars := ["loop.example/golayoctads/impl.digitProducts"], fn := fun _ => fun
  | [d, g1] => { results := [.lit (.bool false)], args := [d], vars := [g1] }
  | _ => none }
def FnDigitTimesWrongFalsely : Prop := fnDigitTimesRow.holds Tryd.pinned (OpenSpec.ofChange fnDigitTimesWrong)

/-- 'laws.FnHexOf': WHATEVER THE INPUT: true; the input reads as it did. -/
def fnHexOfSpec : ChangeSpec := { name := "fnHexOf", vars := ["loop.example/golayoctads/impl.digitProducts"], fn := fun _ => fun
  | [d, g1] => { results := [.lit (.bool true)], args := [d], vars := [g1] }
  | _ => none }
def fnHexOfRow : OpenClaim := { program := "ytojjbdpoecmaeaadoor", sum := "c35f34170a1dbb0aa349091ae1283c4f30c5949237940da56def27f9b7f5181d", func := "loop.example/golayoctads/laws.FnHexOf", spec := "fnHexOf", named := ["loop.example/golayoctads/impl.digitProducts"], apart := false, laid := [("loop.example/golayoctads/impl.digitProducts", laid_loop_example_golayoctads_impl_digitProducts)] }
def FnHexOfSaid : Prop := fnHexOfRow.holds Tryd.pinned (OpenSpec.ofChange fnHexOfSpec)

/-- ITS FALSE NEIGHBOUR: 'it returns false'. Refute it at one input. -/
def fnHexOfWrong : ChangeSpec := { name := "fnHexOf", vars := ["loop.example/golayoctads/impl.digitProducts"], fn := fun _ => fun
  | [d, g1] => { results := [.lit (.bool false)], args := [d], vars := [g1] }
  | _ => none }
def FnHexOfWrongFalsely : Prop := fnHexOfRow.holds Tryd.pinned (OpenSpec.ofChange fnHexOfWrong)

/-- 'laws.FnHexIn': WHATEVER THE INPUT: true; the input reads as it did. -/
def fnHexInSpec : ChangeSpec := { name := "fnHexIn", vars := ["loop.example/golayoctads/impl.digitProducts"], fn := fun _ => fun
  | [d, g1] => { results := [.lit (.bool true)], args := [d], vars := [g1] }
  | _ => none }
def fnHexInRow : OpenClaim := { program := "ytojjbdpoecmaeaadoor", sum := "c35f34170a1dbb0aa349091ae1283c4f30c5949237940da56def27f9b7f5181d", func := "loop.example/golayoctads/laws.FnHexIn", spec := "fnHexIn", named := ["loop.example/golayoctads/impl.digitProducts"], apart := false, laid := [("loop.example/golayoctads/impl.digitProducts", laid_loop_example_golayoctads_impl_digitProducts)] }
def FnHexInSaid : Prop := fnHexInRow.holds Tryd.pinned (OpenSpec.ofChange fnHexInSpec)

/-- ITS FALSE NEIGHBOUR: 'it returns false'. Refute it at one input. -/
def fnHexInWrong : ChangeSpec := { name := "fnHexIn", vars := ["loop.example/golayoctads/impl.digitProducts"], fn := fun _ => fun
  | [d, g1] => { results := [.lit (.bool false)], args := [d], vars := [g1] }
  | _ => none }
def FnHexInWrongFalsely : Prop := fnHexInRow.holds Tryd.pinned (OpenSpec.ofChange fnHexInWrong)

/-- 'laws.FnHexAdd': WHATEVER THE INPUT: true; the input reads as it did. -/
def fnHexAddSpec : ChangeSpec := { name := "fnHexAdd", vars := ["loop.example/golayoctads/impl.digitProducts"], fn := fun _ => fun
  | [d, g1] => { results := [.lit (.bool true)], args := [d], vars := [g1] }
  | _ => none }
def fnHexAddRow : OpenClaim := { program := "ytojjbdpoecmaeaadoor", sum := "c35f34170a1dbb0aa349091ae1283c4f30c5949237940da56def27f9b7f5181d", func := "loop.example/golayoctads/laws.FnHexAdd", spec := "fnHexAdd", named := ["loop.example/golayoctads/impl.digitProducts"], apart := false, laid := [("loop.example/golayoctads/impl.digitProducts", laid_loop_example_golayoctads_impl_digitProducts)] }
def FnHexAddSaid : Prop := fnHexAddRow.holds Tryd.pinned (OpenSpec.ofChange fnHexAddSpec)

/-- ITS FALSE NEIGHBOUR: 'it returns false'. Refute it at one input. -/
def fnHexAddWrong : ChangeSpec := { name := "fnHexAdd", vars := ["loop.example/golayoctads/impl.digitProducts"], fn := fun _ => fun
  | [d, g1] => { results := [.lit (.bool false)], args := [d], vars := [g1] }
  | _ => none }
def FnHexAddWrongFalsely : Prop := fnHexAddRow.holds Tryd.pinned (OpenSpec.ofChange fnHexAddWrong)

/-- 'laws.FnHexTimes': WHATEVER THE INPUT: true; the input reads as it did. -/
def fnHexTimesSpec : ChangeSpec := { name := "fnHexTimes", vars := ["loop.example/golayoctads/impl.digitProducts"], fn := fun _ => fun
  | [d, g1] => { results := [.lit (.bool true)], args := [d], vars := [g1] }
  | _ => none }
def fnHexTimesRow : OpenClaim := { program := "ytojjbdpoecmaeaadoor", sum := "c35f34170a1dbb0aa349091ae1283c4f30c5949237940da56def27f9b7f5181d", func := "loop.example/golayoctads/laws.FnHexTimes", spec := "fnHexTimes", named := ["loop.example/golayoctads/impl.digitProducts"], apart := false, laid := [("loop.example/golayoctads/impl.digitProducts", laid_loop_example_golayoctads_impl_digitProducts)] }
def FnHexTimesSaid : Prop := fnHexTimesRow.holds Tryd.pinned (OpenSpec.ofChange fnHexTimesSpec)

/-- ITS FALSE NEIGHBOUR: 'it returns false'. Refute it at one input. -/
def fnHexTimesWrong : ChangeSpec := { name := "fnHexTimes", vars := ["loop.example/golayoctads/impl.digitProducts"], fn := fun _ => fun
  | [d, g1] => { results := [.lit (.bool false)], args := [d], vars := [g1] }
  | _ => none }
def FnHexTimesWrongFalsely : Prop := fnHexTimesRow.holds Tryd.pinned (OpenSpec.ofChange fnHexTimesWrong)

/-- 'laws.FnHexInner': WHATEVER THE INPUT: true; the input reads as it did. -/
def fnHexInnerSpec : ChangeSpec := { name := "fnHexInner", vars := ["loop.example/golayoctads/impl.digitProducts"], fn := fun _ => fun
  | [d, g1] => { results := [.lit (.bool true)], args := [d], vars := [g1] }
  | _ => none }
def fnHexInnerRow : OpenClaim := { program := "ytojjbdpoecmaeaadoor", sum := "c35f34170a1dbb0aa349091ae1283c4f30c5949237940da56def27f9b7f5181d", func := "loop.example/golayoctads/laws.FnHexInner", spec := "fnHexInner", named := ["loop.example/golayoctads/impl.digitProducts"], apart := false, laid := [("loop.example/golayoctads/impl.digitProducts", laid_loop_example_golayoctads_impl_digitProducts)] }
def FnHexInnerSaid : Prop := fnHexInnerRow.holds Tryd.pinned (OpenSpec.ofChange fnHexInnerSpec)

/-- ITS FALSE NEIGHBOUR: 'it returns false'. Refute it at one input. -/
def fnHexInnerWrong : ChangeSpec := { name := "fnHexInner", vars := ["loop.example/golayoctads/impl.digitProducts"], fn := fun _ => fun
  | [d, g1] => { results := [.lit (.bool false)], args := [d], vars := [g1] }
  | _ => none }
def FnHexInnerWrongFalsely : Prop := fnHexInnerRow.holds Tryd.pinned (OpenSpec.ofChange fnHexInnerWrong)

/-- 'laws.FnHexNear': WHATEVER THE INPUT: true; the input reads as it did. -/
def fnHexNearSpec : ChangeSpec := { name := "fnHexNear", vars := ["loop.example/golayoctads/impl.digitProducts"], fn := fun _ => fun
  | [d, g1] => { results := [.lit (.bool true)], args := [d], vars := [g1] }
  | _ => none }
def fnHexNearRow : OpenClaim := { program := "ytojjbdpoecmaeaadoor", sum := "c35f34170a1dbb0aa349091ae1283c4f30c5949237940da56def27f9b7f5181d", func := "loop.example/golayoctads/laws.FnHexNear", spec := "fnHexNear", named := ["loop.example/golayoctads/impl.digitProducts"], apart := false, laid := [("loop.example/golayoctads/impl.digitProducts", laid_loop_example_golayoctads_impl_digitProducts)] }
def FnHexNearSaid : Prop := fnHexNearRow.holds Tryd.pinned (OpenSpec.ofChange fnHexNearSpec)

/-- ITS FALSE NEIGHBOUR: 'it returns false'. Refute it at one input. -/
def fnHexNearWrong : ChangeSpec := { name := "fnHexNear", vars := ["loop.example/golayoctads/impl.digitProducts"], fn := fun _ => fun
  | [d, g1] => { results := [.lit (.bool false)], args := [d], vars := [g1] }
  | _ => none }
def FnHexNearWrongFalsely : Prop := fnHexNearRow.holds Tryd.pinned (OpenSpec.ofChange fnHexNearWrong)

/-- 'laws.FnExactDigitTimes': WHATEVER THE INPUT: true; the input reads as it did. -/
def fnExactDigitTimesSpec : ChangeSpec := { name := "fnExactDigitTimes", vars := ["loop.example/golayoctads/impl.digitProducts"], fn := fun _ => fun
  | [d1, d2, g1] => { results := [.lit (.bool true)], args := [d1, d2], vars := [g1] }
  | _ => none }
def fnExactDigitTimesRow : OpenClaim := { program := "ytojjbdpoecmaeaadoor", sum := "c35f34170a1dbb0aa349091ae1283c4f30c5949237940da56def27f9b7f5181d", func := "loop.example/golayoctads/laws.FnExactDigitTimes", spec := "fnExactDigitTimes", named := ["loop.example/golayoctads/impl.digitProducts"], apart := false, laid := [("loop.example/golayoctads/impl.digitProducts", laid_loop_example_golayoctads_impl_digitProducts)] }
def FnExactDigitTimesSaid : Prop := fnExactDigitTimesRow.holds Tryd.pinned (OpenSpec.ofChange fnExactDigitTimesSpec)

/-- ITS FALSE NEIGHBOUR: 'it returns false'. Refute it at one input. -/
def fnExactDigitTimesWrong : ChangeSpec := { name := "fnExactDigitTimes", vars := ["loop.example/golayoctads/impl.digitProducts"], fn := fun _ => fun
  | [d1, d2, g1] => { results := [.lit (.bool false)], args := [d1, d2], vars := [g1] }
  | _ => none }
def FnExactDigitTimesWrongFalsely : Prop := fnExactDigitTimesRow.holds Tryd.pinned (OpenSpec.ofChange fnExactDigitTimesWrong)

/-- 'laws.FnExactHexOf': WHATEVER THE INPUT: true; the input reads as it did. -/
def fnExactHexOfSpec : ChangeSpec := { name := "fnExactHexOf", vars := ["loop.example/golayoctads/impl.digitProducts"], fn := fun _ => fun
  | [d1, d2, d3, g1] => { results := [.lit (.bool true)], args := [d1, d2, d3], vars := [g1] }
  | _ => none }
def fnExactHexOfRow : OpenClaim := { program := "ytojjbdpoecmaeaadoor", sum := "c35f34170a1dbb0aa349091ae1283c4f30c5949237940da56def27f9b7f5181d", func := "loop.example/golayoctads/laws.FnExactHexOf", spec := "fnExactHexOf", named := ["loop.example/golayoctads/impl.digitProducts"], apart := false, laid := [("loop.example/golayoctads/impl.digitProducts", laid_loop_example_golayoctads_impl_digitProducts)] }
def FnExactHexOfSaid : Prop := fnExactHexOfRow.holds Tryd.pinned (OpenSpec.ofChange fnExactHexOfSpec)

/-- ITS FALSE NEIGHBOUR: 'it returns false'. Refute it at one input. -/
def fnExactHexOfWrong : ChangeSpec := { name := "fnExactHexOf", vars := ["loop.example/golayoctads/impl.digitProducts"], fn := fun _ => fun
  | [d1, d2, d3, g1] => { results := [.lit (.bool false)], args := [d1, d2, d3], vars := [g1] }
  | _ => none }
def FnExactHexOfWrongFalsely : Prop := fnExactHexOfRow.holds Tryd.pinned (OpenSpec.ofChange fnExactHexOfWrong)

/-- 'laws.FnExactHexIn': WHATEVER THE INPUT: true; the input reads as it did. -/
def fnExactHexInSpec : ChangeSpec := { name := "fnExactHexIn", vars := ["loop.example/golayoctads/impl.digitProducts"], fn := fun _ => fun
  | [d, g1] => { results := [.lit (.bool true)], args := [d], vars := [g1] }
  | _ => none }
def fnExactHexInRow : OpenClaim := { program := "ytojjbdpoecmaeaadoor", sum := "c35f34170a1dbb0aa349091ae1283c4f30c5949237940da56def27f9b7f5181d", func := "loop.example/golayoctads/laws.FnExactHexIn", spec := "fnExactHexIn", named := ["loop.example/golayoctads/impl.digitProducts"], apart := false, laid := [("loop.example/golayoctads/impl.digitProducts", laid_loop_example_golayoctads_impl_digitProducts)] }
def FnExactHexInSaid : Prop := fnExactHexInRow.holds Tryd.pinned (OpenSpec.ofChange fnExactHexInSpec)

/-- ITS FALSE NEIGHBOUR: 'it returns false'. Refute it at one input. -/
def fnExactHexInWrong : ChangeSpec := { name := "fnExactHexIn", vars := ["loop.example/golayoctads/impl.digitProducts"], fn := fun _ => fun
  | [d, g1] => { results := [.lit (.bool false)], args := [d], vars := [g1] }
  | _ => none }
def FnExactHexInWrongFalsely : Prop := fnExactHexInRow.holds Tryd.pinned (OpenSpec.ofChange fnExactHexInWrong)

/-- 'laws.FnExactHexTimes': WHATEVER THE INPUT: true; the input reads as it did. -/
def fnExactHexTimesSpec : ChangeSpec := { name := "fnExactHexTimes", vars := ["loop.example/golayoctads/impl.digitProducts"], fn := fun _ => fun
  | [d1, d2, g1] => { results := [.lit (.bool true)], args := [d1, d2], vars := [g1] }
  | _ => none }
def fnExactHexTimesRow : OpenClaim := { program := "ytojjbdpoecmaeaadoor", sum := "c35f34170a1dbb0aa349091ae1283c4f30c5949237940da56def27f9b7f5181d", func := "loop.example/golayoctads/laws.FnExactHexTimes", spec := "fnExactHexTimes", named := ["loop.example/golayoctads/impl.digitProducts"], apart := false, laid := [("loop.example/golayoctads/impl.digitProducts", laid_loop_example_golayoctads_impl_digitProducts)] }
def FnExactHexTimesSaid : Prop := fnExactHexTimesRow.holds Tryd.pinned (OpenSpec.ofChange fnExactHexTimesSpec)

/-- ITS FALSE NEIGHBOUR: 'it returns false'. Refute it at one input. -/
def fnExactHexTimesWrong : ChangeSpec := { name := "fnExactHexTimes", vars := ["loop.example/golayoctads/impl.digitProducts"], fn := fun _ => fun
  | [d1, d2, g1] => { results := [.lit (.bool false)], args := [d1, d2], vars := [g1] }
  | _ => none }
def FnExactHexTimesWrongFalsely : Prop := fnExactHexTimesRow.holds Tryd.pinned (OpenSpec.ofChange fnExactHexTimesWrong)

/-- 'laws.FnExactHexInner': WHATEVER THE INPUT: true; the input reads as it did. -/
def fnExactHexInnerSpec : ChangeSpec := { name := "fnExactHexInner", vars := ["loop.example/golayoctads/impl.digitProducts"], fn := fun _ => fun
  | [d1, d2, g1] => { results := [.lit (.bool true)], args := [d1, d2], vars := [g1] }
  | _ => none }
def fnExactHexInnerRow : OpenClaim := { program := "ytojjbdpoecmaeaadoor", sum := "c35f34170a1dbb0aa349091ae1283c4f30c5949237940da56def27f9b7f5181d", func := "loop.example/golayoctads/laws.FnExactHexInner", spec := "fnExactHexInner", named := ["loop.example/golayoctads/impl.digitProducts"], apart := false, laid := [("loop.example/golayoctads/impl.digitProducts", laid_loop_example_golayoctads_impl_digitProducts)] }
def FnExactHexInnerSaid : Prop := fnExactHexInnerRow.holds Tryd.pinned (OpenSpec.ofChange fnExactHexInnerSpec)

/-- ITS FALSE NEIGHBOUR: 'it returns false'. Refute it at one input. -/
def fnExactHexInnerWrong : ChangeSpec := { name := "fnExactHexInner", vars := ["loop.example/golayoctads/impl.digitProducts"], fn := fun _ => fun
  | [d1, d2, g1] => { results := [.lit (.bool false)], args := [d1, d2], vars := [g1] }
  | _ => none }
def FnExactHexInnerWrongFalsely : Prop := fnExactHexInnerRow.holds Tryd.pinned (OpenSpec.ofChange fnExactHexInnerWrong)

/-- 'laws.FnExactHexNear': WHATEVER THE INPUT: true; the input reads as it did. -/
def fnExactHexNearSpec : ChangeSpec := { name := "fnExactHexNear", vars := ["loop.example/golayoctads/impl.digitProducts"], fn := fun _ => fun
  | [d, g1] => { results := [.lit (.bool true)], args := [d], vars := [g1] }
  | _ => none }
def fnExactHexNearRow : OpenClaim := { program := "ytojjbdpoecmaeaadoor", sum := "c35f34170a1dbb0aa349091ae1283c4f30c5949237940da56def27f9b7f5181d", func := "loop.example/golayoctads/laws.FnExactHexNear", spec := "fnExactHexNear", named := ["loop.example/golayoctads/impl.digitProducts"], apart := false, laid := [("loop.example/golayoctads/impl.digitProducts", laid_loop_example_golayoctads_impl_digitProducts)] }
def FnExactHexNearSaid : Prop := fnExactHexNearRow.holds Tryd.pinned (OpenSpec.ofChange fnExactHexNearSpec)

/-- ITS FALSE NEIGHBOUR: 'it returns false'. Refute it at one input. -/
def fnExactHexNearWrong : ChangeSpec := { name := "fnExactHexNear", vars := ["loop.example/golayoctads/impl.digitProducts"], fn := fun _ => fun
  | [d, g1] => { results := [.lit (.bool false)], args := [d], vars := [g1] }
  | _ => none }
def FnExactHexNearWrongFalsely : Prop := fnExactHexNearRow.holds Tryd.pinned (OpenSpec.ofChange fnExactHexNearWrong)

/- THE SECOND FORM. 'bulk': how many values and letters a reading holds, each counted each time it is reached (what is shared counts as often as it is met; a slice's spare places count too). A statement '..UptoSaid' is the law's where the arguments, and the package variables that the reading takes, are together of bulk at most 1048576: NARROWER than '..Said'. Prove '..Said' where nothing that the law and all that it calls make is longer than what came in: it says more and counts as full. Else prove '..UptoSaid'. A law counts once. -/
mutual
def uptoBulk {H : Type} : DataW H → Nat
  | .lit (.string bytes) => bytes.length + 1
  | .lit _ => 1
  | .nil => 1
  | .ptr d => uptoBulk d + 1
  | .slice elems spare => uptoBulkAll elems + uptoBulkAll spare + 1
  | .agg parts => uptoBulkAll parts + 1
  | .iface _ d => uptoBulk d + 1
  | .map entries => uptoBulkEntries entries + 1
  | .held _ => 1
def uptoBulkAll {H : Type} : List (DataW H) → Nat
  | [] => 0
  | d :: r => uptoBulk d + uptoBulkAll r
def uptoBulkEntries {H : Type} : List (Lit × DataW H) → Nat
  | [] => 0
  | x :: r => uptoBulkEntry x + uptoBulkEntries r
def uptoBulkEntry {H : Type} : Lit × DataW H → Nat
  | (.string bytes, d) => bytes.length + uptoBulk d + 1
  | (_, d) => uptoBulk d + 1
 end
def uptoSmall : (H : Type) → List (DataW H) → Bool := fun _ ds => decide (uptoBulkAll ds ≤ 1048576)
def OpenSpec.upto (s : _root_.Go.ChangeSpec) : _root_.Go.OpenSpec := { _root_.Go.OpenSpec.ofChange s with cond := some uptoSmall }

/-- 'laws.FnDigitTimes', WHERE WHAT IT READS IS OF BULK AT MOST 1048576: true; the input reads as it did. -/
def fnDigitTimesUptoRow : OpenClaim := { program := "ytojjbdpoecmaeaadoor", sum := "c35f34170a1dbb0aa349091ae1283c4f30c5949237940da56def27f9b7f5181d", func := "loop.example/golayoctads/laws.FnDigitTimes", spec := "fnDigitTimes", named := ["loop.example/golayoctads/impl.digitProducts"], apart := false, laid := [("loop.example/golayoctads/impl.digitProducts", laid_loop_example_golayoctads_impl_digitProducts)], narrowed := true }
def FnDigitTimesUptoSaid : Prop := fnDigitTimesUptoRow.holds Tryd.pinned (OpenSpec.upto fnDigitTimesSpec)

/-- 'laws.FnHexOf', WHERE WHAT IT READS IS OF BULK AT MOST 1048576: true; the input reads as it did. -/
def fnHexOfUptoRow : OpenClaim := { program := "ytojjbdpoecmaeaadoor", sum := "c35f34170a1dbb0aa349091ae1283c4f30c5949237940da56def27f9b7f5181d", func := "loop.example/golayoctads/laws.FnHexOf", spec := "fnHexOf", named := ["loop.example/golayoctads/impl.digitProducts"], apart := false, laid := [("loop.example/golayoctads/impl.digitProducts", laid_loop_example_golayoctads_impl_digitProducts)], narrowed := true }
def FnHexOfUptoSaid : Prop := fnHexOfUptoRow.holds Tryd.pinned (OpenSpec.upto fnHexOfSpec)

/-- 'laws.FnHexIn', WHERE WHAT IT READS IS OF BULK AT MOST 1048576: true; the input reads as it did. -/
def fnHexInUptoRow : OpenClaim := { program := "ytojjbdpoecmaeaadoor", sum := "c35f34170a1dbb0aa349091ae1283c4f30c5949237940da56def27f9b7f5181d", func := "loop.example/golayoctads/laws.FnHexIn", spec := "fnHexIn", named := ["loop.example/golayoctads/impl.digitProducts"], apart := false, laid := [("loop.example/golayoctads/impl.digitProducts", laid_loop_example_golayoctads_impl_digitProducts)], narrowed := true }
def FnHexInUptoSaid : Prop := fnHexInUptoRow.holds Tryd.pinned (OpenSpec.upto fnHexInSpec)

/-- 'laws.FnHexAdd', WHERE WHAT IT READS IS OF BULK AT MOST 1048576: true; the input reads as it did. -/
def fnHexAddUptoRow : OpenClaim := { program := "ytojjbdpoecmaeaadoor", sum := "c35f34170a1dbb0aa349091ae1283c4f30c5949237940da56def27f9b7f5181d", func := "loop.example/golayoctads/laws.FnHexAdd", spec := "fnHexAdd", named := ["loop.example/golayoctads/impl.digitProducts"], apart := false, laid := [("loop.example/golayoctads/impl.digitProducts", laid_loop_example_golayoctads_impl_digitProducts)], narrowed := true }
def FnHexAddUptoSaid : Prop := fnHexAddUptoRow.holds Tryd.pinned (OpenSpec.upto fnHexAddSpec)

/-- 'laws.FnHexTimes', WHERE WHAT IT READS IS OF BULK AT MOST 1048576: true; the input reads as it did. -/
def fnHexTimesUptoRow : OpenClaim := { program := "ytojjbdpoecmaeaadoor", sum := "c35f34170a1dbb0aa349091ae1283c4f30c5949237940da56def27f9b7f5181d", func := "loop.example/golayoctads/laws.FnHexTimes", spec := "fnHexTimes", named := ["loop.example/golayoctads/impl.digitProducts"], apart := false, laid := [("loop.example/golayoctads/impl.digitProducts", laid_loop_example_golayoctads_impl_digitProducts)], narrowed := true }
def FnHexTimesUptoSaid : Prop := fnHexTimesUptoRow.holds Tryd.pinned (OpenSpec.upto fnHexTimesSpec)

/-- 'laws.FnHexInner', WHERE WHAT IT READS IS OF BULK AT MOST 1048576: true; the input reads as it did. -/
def fnHexInnerUptoRow : OpenClaim := { program := "ytojjbdpoecmaeaadoor", sum := "c35f34170a1dbb0aa349091ae1283c4f30c5949237940da56def27f9b7f5181d", func := "loop.example/golayoctads/laws.FnHexInner", spec := "fnHexInner", named := ["loop.example/golayoctads/impl.digitProducts"], apart := false, laid := [("loop.example/golayoctads/impl.digitProducts", laid_loop_example_golayoctads_impl_digitProducts)], narrowed := true }
def FnHexInnerUptoSaid : Prop := fnHexInnerUptoRow.holds Tryd.pinned (OpenSpec.upto fnHexInnerSpec)

/-- 'laws.FnHexNear', WHERE WHAT IT READS IS OF BULK AT MOST 1048576: true; the input reads as it did. -/
def fnHexNearUptoRow : OpenClaim := { program := "ytojjbdpoecmaeaadoor", sum := "c35f34170a1dbb0aa349091ae1283c4f30c5949237940da56def27f9b7f5181d", func := "loop.example/golayoctads/laws.FnHexNear", spec := "fnHexNear", named := ["loop.example/golayoctads/impl.digitProducts"], apart := false, laid := [("loop.example/golayoctads/impl.digitProducts", laid_loop_example_golayoctads_impl_digitProducts)], narrowed := true }
def FnHexNearUptoSaid : Prop := fnHexNearUptoRow.holds Tryd.pinned (OpenSpec.upto fnHexNearSpec)

/-- 'laws.FnExactDigitTimes', WHERE WHAT IT READS IS OF BULK AT MOST 1048576: true; the input reads as it did. -/
def fnExactDigitTimesUptoRow : OpenClaim := { program := "ytojjbdpoecmaeaadoor", sum := "c35f34170a1dbb0aa349091ae1283c4f30c5949237940da56def27f9b7f5181d", func := "loop.example/golayoctads/laws.FnExactDigitTimes", spec := "fnExactDigitTimes", named := ["loop.example/golayoctads/impl.digitProducts"], apart := false, laid := [("loop.example/golayoctads/impl.digitProducts", laid_loop_example_golayoctads_impl_digitProducts)], narrowed := true }
def FnExactDigitTimesUptoSaid : Prop := fnExactDigitTimesUptoRow.holds Tryd.pinned (OpenSpec.upto fnExactDigitTimesSpec)

/-- 'laws.FnExactHexOf', WHERE WHAT IT READS IS OF BULK AT MOST 1048576: true; the input reads as it did. -/
def fnExactHexOfUptoRow : OpenClaim := { program := "ytojjbdpoecmaeaadoor", sum := "c35f34170a1dbb0aa349091ae1283c4f30c5949237940da56def27f9b7f5181d", func := "loop.example/golayoctads/laws.FnExactHexOf", spec := "fnExactHexOf", named := ["loop.example/golayoctads/impl.digitProducts"], apart := false, laid := [("loop.example/golayoctads/impl.digitProducts", laid_loop_example_golayoctads_impl_digitProducts)], narrowed := true }
def FnExactHexOfUptoSaid : Prop := fnExactHexOfUptoRow.holds Tryd.pinned (OpenSpec.upto fnExactHexOfSpec)

/-- 'laws.FnExactHexIn', WHERE WHAT IT READS IS OF BULK AT MOST 1048576: true; the input reads as it did. -/
def fnExactHexInUptoRow : OpenClaim := { program := "ytojjbdpoecmaeaadoor", sum := "c35f34170a1dbb0aa349091ae1283c4f30c5949237940da56def27f9b7f5181d", func := "loop.example/golayoctads/laws.FnExactHexIn", spec := "fnExactHexIn", named := ["loop.example/golayoctads/impl.digitProducts"], apart := false, laid := [("loop.example/golayoctads/impl.digitProducts", laid_loop_example_golayoctads_impl_digitProducts)], narrowed := true }
def FnExactHexInUptoSaid : Prop := fnExactHexInUptoRow.holds Tryd.pinned (OpenSpec.upto fnExactHexInSpec)

/-- 'laws.FnExactHexTimes', WHERE WHAT IT READS IS OF BULK AT MOST 1048576: true; the input reads as it did. -/
def fnExactHexTimesUptoRow : OpenClaim := { program := "ytojjbdpoecmaeaadoor", sum := "c35f34170a1dbb0aa349091ae1283c4f30c5949237940da56def27f9b7f5181d", func := "loop.example/golayoctads/laws.FnExactHexTimes", spec := "fnExactHexTimes", named := ["loop.example/golayoctads/impl.digitProducts"], apart := false, laid := [("loop.example/golayoctads/impl.digitProducts", laid_loop_example_golayoctads_impl_digitProducts)], narrowed := true }
def FnExactHexTimesUptoSaid : Prop := fnExactHexTimesUptoRow.holds Tryd.pinned (OpenSpec.upto fnExactHexTimesSpec)

/-- 'laws.FnExactHexInner', WHERE WHAT IT READS IS OF BULK AT MOST 1048576: true; the input reads as it did. -/
def fnExactHexInnerUptoRow : OpenClaim := { program := "ytojjbdpoecmaeaadoor", sum := "c35f34170a1dbb0aa349091ae1283c4f30c5949237940da56def27f9b7f5181d", func := "loop.example/golayoctads/laws.FnExactHexInner", spec := "fnExactHexInner", named := ["loop.example/golayoctads/impl.digitProducts"], apart := false, laid := [("loop.example/golayoctads/impl.digitProducts", laid_loop_example_golayoctads_impl_digitProducts)], narrowed := true }
def FnExactHexInnerUptoSaid : Prop := fnExactHexInnerUptoRow.holds Tryd.pinned (OpenSpec.upto fnExactHexInnerSpec)

/-- 'laws.FnExactHexNear', WHERE WHAT IT READS IS OF BULK AT MOST 1048576: true; the input reads as it did. -/
def fnExactHexNearUptoRow : OpenClaim := { program := "ytojjbdpoecmaeaadoor", sum := "c35f34170a1dbb0aa349091ae1283c4f30c5949237940da56def27f9b7f5181d", func := "loop.example/golayoctads/laws.FnExactHexNear", spec := "fnExactHexNear", named := ["loop.example/golayoctads/impl.digitProducts"], apart := false, laid := [("loop.example/golayoctads/impl.digitProducts", laid_loop_example_golayoctads_impl_digitProducts)], narrowed := true }
def FnExactHexNearUptoSaid : Prop := fnExactHexNearUptoRow.holds Tryd.pinned (OpenSpec.upto fnExactHexNearSpec)

end Rows
end Go.Proofs.YtojjbdpoecmaeaaDoor
