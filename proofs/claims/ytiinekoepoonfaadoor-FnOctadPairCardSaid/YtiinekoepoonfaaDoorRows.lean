/-
  NARROWER THAN 'FOR EVERY INPUT', by the rows' own cells (each row's printed sentence says how): FnOctadCount: laid · FnOctadMeet: laid · FnOctadPair: laid · FnDodecad: laid · FnExactOctadCount: laid · FnExactOctadMeet: laid · FnExactDodecadOf: laid.
  DERIVED. THE GIVEN ROWS OF THIS SEAT. 7 by the template 'for every input the law returns true; each argument reads behind the call as it read before'; 0 by the template 'total and deterministic' (their statements: YtiinekoepoonfaaDoorTotals.lean).
  GIVEN WITH THE SEED: the statements are not yours to turn. If you find one false, say at which input.
  Laid BY PROGRAM, IN A SANDBOX (cutbox-rows.mjs): the forced cells as the released guide's own fill.sh prints them over the translation b20cfdfd6f1ac3d1… (all of the seat's roots in one cut). By AI agents, Wed Nov 11 2026. No macro, syntax, notation, axiom, sorry.
-/
import Derived.Test.YtiinekoepoonfaaDoorChecked
import GoSem.Claim
import GoSem.ClaimJoined
import GoSem.ClaimMapViews
import Derived.JoinedTies
import Derived.KernelRfl
namespace Go.Proofs.YtiinekoepoonfaaDoor
/- THE CELL 'sum', in the pinned program and in every row, IS THE sha256 OF THE DUMP (.gsa) THAT YtiinekoepoonfaaDoorProg.lean LOADS. Nothing in Lean hashes anything: it is a label: what it is worth is what the hold of that sum in a sandbox is worth. -/
noncomputable def Tryd.pinned : Pinned := { name := "ytiinekoepoonfaadoor", sum := "b20cfdfd6f1ac3d12d6d1c3410e3a34d77b0c541fd7c8384dcfb8f82604643f5", checked := Tryd.checked }
namespace Rows
def none {H : Type} : Left H := { results := [], args := [] }

/- WHAT THE LISTED PACKAGE-LEVEL VARIABLES READ AS WHEN THE CALL BEGINS. Each datum BY PROGRAM (the guide's laid-datum.mjs) off the statement by which the dump's own 'gosem.cut.vars' lays the variable. In a bare row this is a premise. The card (YtiinekoepoonfaaDoorCards.lean) ties it to the program's text. -/
def laid_loop_example_golayoctads_impl_digitProducts {H : Type} : DataW H := .agg [.agg [.lit (.int .u8 0), .lit (.int .u8 0), .lit (.int .u8 0), .lit (.int .u8 0)], .agg [.lit (.int .u8 0), .lit (.int .u8 1), .lit (.int .u8 2), .lit (.int .u8 3)], .agg [.lit (.int .u8 0), .lit (.int .u8 2), .lit (.int .u8 3), .lit (.int .u8 1)], .agg [.lit (.int .u8 0), .lit (.int .u8 3), .lit (.int .u8 1), .lit (.int .u8 2)]]
def laid_loop_example_golayoctads_impl_bareColumns {H : Type} : DataW H := .agg [.agg [.lit (.int .u32 0), .lit (.int .u32 12), .lit (.int .u32 10), .lit (.int .u32 6)], .agg [.lit (.int .u32 14), .lit (.int .u32 2), .lit (.int .u32 4), .lit (.int .u32 8)]]
def laid_math_bits_deBruijn32tab {H : Type} : DataW H := .agg [.lit (.int .u8 0), .lit (.int .u8 1), .lit (.int .u8 28), .lit (.int .u8 2), .lit (.int .u8 29), .lit (.int .u8 14), .lit (.int .u8 24), .lit (.int .u8 3), .lit (.int .u8 30), .lit (.int .u8 22), .lit (.int .u8 20), .lit (.int .u8 15), .lit (.int .u8 25), .lit (.int .u8 17), .lit (.int .u8 4), .lit (.int .u8 8), .lit (.int .u8 31), .lit (.int .u8 27), .lit (.int .u8 13), .lit (.int .u8 23), .lit (.int .u8 21), .lit (.int .u8 19), .lit (.int .u8 16), .lit (.int .u8 7), .lit (.int .u8 26), .lit (.int .u8 12), .lit (.int .u8 18), .lit (.int .u8 6), .lit (.int .u8 11), .lit (.int .u8 5), .lit (.int .u8 10), .lit (.int .u8 9)]

/-- 'laws.FnOctadCount': WHATEVER THE INPUT: true; the input reads as it did. -/
def fnOctadCountSpec : ChangeSpec := { name := "fnOctadCount", vars := ["loop.example/golayoctads/impl.bareColumns", "loop.example/golayoctads/impl.digitProducts"], fn := fun _ => fun
  | [d, g1, g2] => { results := [.lit (.bool true)], args := [d], vars := [g1, g2] }
  | _ => none }
def fnOctadCountRow : OpenClaim := { program := "ytiinekoepoonfaadoor", sum := "b20cfdfd6f1ac3d12d6d1c3410e3a34d77b0c541fd7c8384dcfb8f82604643f5", func := "loop.example/golayoctads/laws.FnOctadCount", spec := "fnOctadCount", unfollowed := true, recurses := true, named := ["loop.example/golayoctads/impl.bareColumns", "loop.example/golayoctads/impl.digitProducts"], apart := false, laid := [("loop.example/golayoctads/impl.digitProducts", laid_loop_example_golayoctads_impl_digitProducts), ("loop.example/golayoctads/impl.bareColumns", laid_loop_example_golayoctads_impl_bareColumns)] }
def FnOctadCountSaid : Prop := fnOctadCountRow.holds Tryd.pinned (OpenSpec.ofChange fnOctadCountSpec)

/-- ITS FALSE NEIGHBOUR: 'it returns false'. Refute it at one input. -/
def fnOctadCountWrong : ChangeSpec := { name := "fnOctadCount", vars := ["loop.example/golayoctads/impl.bareColumns", "loop.example/golayoctads/impl.digitProducts"], fn := fun _ => fun
  | [d, g1, g2] => { results := [.lit (.bool false)], args := [d], vars := [g1, g2] }
  | _ => none }
def FnOctadCountWrongFalsely : Prop := fnOctadCountRow.holds Tryd.pinned (OpenSpec.ofChange fnOctadCountWrong)

/-- 'laws.FnOctadMeet': WHATEVER THE INPUT: true; the input reads as it did. -/
def fnOctadMeetSpec : ChangeSpec := { name := "fnOctadMeet", vars := ["loop.example/golayoctads/impl.bareColumns", "loop.example/golayoctads/impl.digitProducts"], fn := fun _ => fun
  | [d, g1, g2] => { results := [.lit (.bool true)], args := [d], vars := [g1, g2] }
  | _ => none }
def fnOctadMeetRow : OpenClaim := { program := "ytiinekoepoonfaadoor", sum := "b20cfdfd6f1ac3d12d6d1c3410e3a34d77b0c541fd7c8384dcfb8f82604643f5", func := "loop.example/golayoctads/laws.FnOctadMeet", spec := "fnOctadMeet", unfollowed := true, recurses := true, named := ["math/bits.deBruijn32tab", "loop.example/golayoctads/impl.bareColumns", "loop.example/golayoctads/impl.digitProducts"], apart := false, laid := [("math/bits.deBruijn32tab", laid_math_bits_deBruijn32tab), ("loop.example/golayoctads/impl.digitProducts", laid_loop_example_golayoctads_impl_digitProducts), ("loop.example/golayoctads/impl.bareColumns", laid_loop_example_golayoctads_impl_bareColumns)] }
def FnOctadMeetSaid : Prop := fnOctadMeetRow.holds Tryd.pinned (OpenSpec.ofChange fnOctadMeetSpec)

/-- ITS FALSE NEIGHBOUR: 'it returns false'. Refute it at one input. -/
def fnOctadMeetWrong : ChangeSpec := { name := "fnOctadMeet", vars := ["loop.example/golayoctads/impl.bareColumns", "loop.example/golayoctads/impl.digitProducts"], fn := fun _ => fun
  | [d, g1, g2] => { results := [.lit (.bool false)], args := [d], vars := [g1, g2] }
  | _ => none }
def FnOctadMeetWrongFalsely : Prop := fnOctadMeetRow.holds Tryd.pinned (OpenSpec.ofChange fnOctadMeetWrong)

/-- 'laws.FnOctadPair': WHATEVER THE INPUT: true; the input reads as it did. -/
def fnOctadPairSpec : ChangeSpec := { name := "fnOctadPair", vars := ["loop.example/golayoctads/impl.bareColumns", "loop.example/golayoctads/impl.digitProducts"], fn := fun _ => fun
  | [d, g1, g2] => { results := [.lit (.bool true)], args := [d], vars := [g1, g2] }
  | _ => none }
def fnOctadPairRow : OpenClaim := { program := "ytiinekoepoonfaadoor", sum := "b20cfdfd6f1ac3d12d6d1c3410e3a34d77b0c541fd7c8384dcfb8f82604643f5", func := "loop.example/golayoctads/laws.FnOctadPair", spec := "fnOctadPair", unfollowed := true, recurses := true, named := ["math/bits.deBruijn32tab", "loop.example/golayoctads/impl.bareColumns", "loop.example/golayoctads/impl.digitProducts"], apart := false, laid := [("math/bits.deBruijn32tab", laid_math_bits_deBruijn32tab), ("loop.example/golayoctads/impl.digitProducts", laid_loop_example_golayoctads_impl_digitProducts), ("loop.example/golayoctads/impl.bareColumns", laid_loop_example_golayoctads_impl_bareColumns)] }
def FnOctadPairSaid : Prop := fnOctadPairRow.holds Tryd.pinned (OpenSpec.ofChange fnOctadPairSpec)

/-- ITS FALSE NEIGHBOUR: 'it returns false'. Refute it at one input. -/
def fnOctadPairWrong : ChangeSpec := { name := "fnOctadPair", vars := ["loop.example/golayoctads/impl.bareColumns", "loop.example/golayoctads/impl.digitProducts"], fn := fun _ => fun
  | [d, g1, g2] => { results := [.lit (.bool false)], args := [d], vars := [g1, g2] }
  | _ => none }
def FnOctadPairWrongFalsely : Prop := fnOctadPairRow.holds Tryd.pinned (OpenSpec.ofChange fnOctadPairWrong)

/-- 'laws.FnDodecad': WHATEVER THE INPUT: true; the input reads as it did. -/
def fnDodecadSpec : ChangeSpec := { name := "fnDodecad", vars := ["loop.example/golayoctads/impl.bareColumns", "loop.example/golayoctads/impl.digitProducts"], fn := fun _ => fun
  | [d, g1, g2] => { results := [.lit (.bool true)], args := [d], vars := [g1, g2] }
  | _ => none }
def fnDodecadRow : OpenClaim := { program := "ytiinekoepoonfaadoor", sum := "b20cfdfd6f1ac3d12d6d1c3410e3a34d77b0c541fd7c8384dcfb8f82604643f5", func := "loop.example/golayoctads/laws.FnDodecad", spec := "fnDodecad", unfollowed := true, recurses := true, named := ["math/bits.deBruijn32tab", "loop.example/golayoctads/impl.bareColumns", "loop.example/golayoctads/impl.digitProducts"], apart := false, laid := [("math/bits.deBruijn32tab", laid_math_bits_deBruijn32tab), ("loop.example/golayoctads/impl.digitProducts", laid_loop_example_golayoctads_impl_digitProducts), ("loop.example/golayoctads/impl.bareColumns", laid_loop_example_golayoctads_impl_bareColumns)] }
def FnDodecadSaid : Prop := fnDodecadRow.holds Tryd.pinned (OpenSpec.ofChange fnDodecadSpec)

/-- ITS FALSE NEIGHBOUR: 'it returns false'. Refute it at one input. -/
def fnDodecadWrong : ChangeSpec := { name := "fnDodecad", vars := ["loop.example/golayoctads/impl.bareColumns", "loop.example/golayoctads/impl.digitProducts"], fn := fun _ => fun
  | [d, g1, g2] => { results := [.lit (.bool false)], args := [d], vars := [g1, g2] }
  | _ => none }
def FnDodecadWrongFalsely : Prop := fnDodecadRow.holds Tryd.pinned (OpenSpec.ofChange fnDodecadWrong)

/-- 'laws.FnExactOctadCount': WHATEVER THE INPUT: true; the input reads as it did. -/
def fnExactOctadCountSpec : ChangeSpec := { name := "fnExactOctadCount", vars := ["loop.example/golayoctads/impl.bareColumns", "loop.example/golayoctads/impl.digitProducts"], fn := fun _ => fun
  | [d1, d2, g1, g2] => { results := [.lit (.bool true)], args := [d1, d2], vars := [g1, g2] }
  | _ => none }
def fnExactOctadCountRow : OpenClaim := { program := "ytiinekoepoonfaadoor", sum := "b20cfdfd6f1ac3d12d6d1c3410e3a34d77b0c541fd7c8384dcfb8f82604643f5", func := "loop.example/golayoctads/laws.FnExactOctadCount", spec := "fnExactOctadCount", unfollowed := true, recurses := true, named := ["loop.example/golayoctads/impl.bareColumns", "loop.example/golayoctads/impl.digitProducts"], apart := false, laid := [("loop.example/golayoctads/impl.digitProducts", laid_loop_example_golayoctads_impl_digitProducts), ("loop.example/golayoctads/impl.bareColumns", laid_loop_example_golayoctads_impl_bareColumns)] }
def FnExactOctadCountSaid : Prop := fnExactOctadCountRow.holds Tryd.pinned (OpenSpec.ofChange fnExactOctadCountSpec)

/-- ITS FALSE NEIGHBOUR: 'it returns false'. Refute it at one input. -/
def fnExactOctadCountWrong : ChangeSpec := { name := "fnExactOctadCount", vars := ["loop.example/golayoctads/impl.bareColumns", "loop.example/golayoctads/impl.digitProducts"], fn := fun _ => fun
  | [d1, d2, g1, g2] => { results := [.lit (.bool false)], args := [d1, d2], vars := [g1, g2] }
  | _ => none }
def FnExactOctadCountWrongFalsely : Prop := fnExactOctadCountRow.holds Tryd.pinned (OpenSpec.ofChange fnExactOctadCountWrong)

/-- 'laws.FnExactOctadMeet': WHATEVER THE INPUT: true; the input reads as it did. -/
def fnExactOctadMeetSpec : ChangeSpec := { name := "fnExactOctadMeet", vars := ["loop.example/golayoctads/impl.bareColumns", "loop.example/golayoctads/impl.digitProducts"], fn := fun _ => fun
  | [d, g1, g2] => { results := [.lit (.bool true)], args := [d], vars := [g1, g2] }
  | _ => none }
def fnExactOctadMeetRow : OpenClaim := { program := "ytiinekoepoonfaadoor", sum := "b20cfdfd6f1ac3d12d6d1c3410e3a34d77b0c541fd7c8384dcfb8f82604643f5", func := "loop.example/golayoctads/laws.FnExactOctadMeet", spec := "fnExactOctadMeet", unfollowed := true, recurses := true, named := ["math/bits.deBruijn32tab", "loop.example/golayoctads/impl.bareColumns", "loop.example/golayoctads/impl.digitProducts"], apart := false, laid := [("math/bits.deBruijn32tab", laid_math_bits_deBruijn32tab), ("loop.example/golayoctads/impl.digitProducts", laid_loop_example_golayoctads_impl_digitProducts), ("loop.example/golayoctads/impl.bareColumns", laid_loop_example_golayoctads_impl_bareColumns)] }
def FnExactOctadMeetSaid : Prop := fnExactOctadMeetRow.holds Tryd.pinned (OpenSpec.ofChange fnExactOctadMeetSpec)

/-- ITS FALSE NEIGHBOUR: 'it returns false'. Refute it at one input. -/
def fnExactOctadMeetWrong : ChangeSpec := { name := "fnExactOctadMeet", vars := ["loop.example/golayoctads/impl.bareColumns", "loop.example/golayoctads/impl.digitProducts"], fn := fun _ => fun
  | [d, g1, g2] => { results := [.lit (.bool false)], args := [d], vars := [g1, g2] }
  | _ => none }
def FnExactOctadMeetWrongFalsely : Prop := fnExactOctadMeetRow.holds Tryd.pinned (OpenSpec.ofChange fnExactOctadMeetWrong)

/-- 'laws.FnExactDodecadOf': WHATEVER THE INPUT: true; the input reads as it did. -/
def fnExactDodecadOfSpec : ChangeSpec := { name := "fnExactDodecadOf", vars := ["loop.example/golayoctads/impl.bareColumns", "loop.example/golayoctads/impl.digitProducts"], fn := fun _ => fun
  | [d, g1, g2] => { results := [.lit (.bool true)], args := [d], vars := [g1, g2] }
  | _ => none }
def fnExactDodecadOfRow : OpenClaim := { program := "ytiinekoepoonfaadoor", sum := "b20cfdfd6f1ac3d12d6d1c3410e3a34d77b0c541fd7c8384dcfb8f82604643f5", func := "loop.example/golayoctads/laws.FnExactDodecadOf", spec := "fnExactDodecadOf", unfollowed := true, recurses := true, named := ["math/bits.deBruijn32tab", "loop.example/golayoctads/impl.bareColumns", "loop.example/golayoctads/impl.digitProducts"], apart := false, laid := [("math/bits.deBruijn32tab", laid_math_bits_deBruijn32tab), ("loop.example/golayoctads/impl.digitProducts", laid_loop_example_golayoctads_impl_digitProducts), ("loop.example/golayoctads/impl.bareColumns", laid_loop_example_golayoctads_impl_bareColumns)] }
def FnExactDodecadOfSaid : Prop := fnExactDodecadOfRow.holds Tryd.pinned (OpenSpec.ofChange fnExactDodecadOfSpec)

/-- ITS FALSE NEIGHBOUR: 'it returns false'. Refute it at one input. -/
def fnExactDodecadOfWrong : ChangeSpec := { name := "fnExactDodecadOf", vars := ["loop.example/golayoctads/impl.bareColumns", "loop.example/golayoctads/impl.digitProducts"], fn := fun _ => fun
  | [d, g1, g2] => { results := [.lit (.bool false)], args := [d], vars := [g1, g2] }
  | _ => none }
def FnExactDodecadOfWrongFalsely : Prop := fnExactDodecadOfRow.holds Tryd.pinned (OpenSpec.ofChange fnExactDodecadOfWrong)

/- THE SECOND FORM. 'bulk': how many values and letters a reading holds, each counted each time it is reached (what is shared counts as often as it is met; a slice's spare places count too). A statement '..UptoSaid' is the law's where the arguments, and the package variables that the reading takes, are together of bulk at most 1048576: NARROWER than '..Said'. Prove '..Said' where nothing that the law and all that it calls make is longer than what came in: it says more and counts as full. Else prove '..UptoSaid'. A law counts once. -/
mutual
def uptoBulk {H : Type} : DataW H → Nat
  | .lit (.string bytes) => bytes.length + 1
  | .lit _ => 1
  | .nil => 1
  | .ptr d => uptoBulk d + 1
  | .slice elems spare => uptoBulkAll elems + uptoBulkAll spare + 1
  | .agg parts => uptoBulkAll parts + 1
  | .iface _ d => uptoBulk d + 1
  | .map entries => uptoBulkEntries entries + 1
  | .held _ => 1
def uptoBulkAll {H : Type} : List (DataW H) → Nat
  | [] => 0
  | d :: r => uptoBulk d + uptoBulkAll r
def uptoBulkEntries {H : Type} : List (Lit × DataW H) → Nat
  | [] => 0
  | x :: r => uptoBulkEntry x + uptoBulkEntries r
def uptoBulkEntry {H : Type} : Lit × DataW H → Nat
  | (.string bytes, d) => bytes.length + uptoBulk d + 1
  | (_, d) => uptoBulk d + 1
 end
def uptoSmall : (H : Type) → List (DataW H) → Bool := fun _ ds => decide (uptoBulkAll ds ≤ 1048576)
def OpenSpec.upto (s : _root_.Go.ChangeSpec) : _root_.Go.OpenSpec := { _root_.Go.OpenSpec.ofChange s with cond := some uptoSmall }

/-- 'laws.FnOctadCount', WHERE WHAT IT READS IS OF BULK AT MOST 1048576: true; the input reads as it did. -/
def fnOctadCountUptoRow : OpenClaim := { program := "ytiinekoepoonfaadoor", sum := "b20cfdfd6f1ac3d12d6d1c3410e3a34d77b0c541fd7c8384dcfb8f82604643f5", func := "loop.example/golayoctads/laws.FnOctadCount", spec := "fnOctadCount", unfollowed := true, recurses := true, named := ["loop.example/golayoctads/impl.bareColumns", "loop.example/golayoctads/impl.digitProducts"], apart := false, laid := [("loop.example/golayoctads/impl.digitProducts", laid_loop_example_golayoctads_impl_digitProducts), ("loop.example/golayoctads/impl.bareColumns", laid_loop_example_golayoctads_impl_bareColumns)], narrowed := true }
def FnOctadCountUptoSaid : Prop := fnOctadCountUptoRow.holds Tryd.pinned (OpenSpec.upto fnOctadCountSpec)

/-- 'laws.FnOctadMeet', WHERE WHAT IT READS IS OF BULK AT MOST 1048576: true; the input reads as it did. -/
def fnOctadMeetUptoRow : OpenClaim := { program := "ytiinekoepoonfaadoor", sum := "b20cfdfd6f1ac3d12d6d1c3410e3a34d77b0c541fd7c8384dcfb8f82604643f5", func := "loop.example/golayoctads/laws.FnOctadMeet", spec := "fnOctadMeet", unfollowed := true, recurses := true, named := ["math/bits.deBruijn32tab", "loop.example/golayoctads/impl.bareColumns", "loop.example/golayoctads/impl.digitProducts"], apart := false, laid := [("math/bits.deBruijn32tab", laid_math_bits_deBruijn32tab), ("loop.example/golayoctads/impl.digitProducts", laid_loop_example_golayoctads_impl_digitProducts), ("loop.example/golayoctads/impl.bareColumns", laid_loop_example_golayoctads_impl_bareColumns)], narrowed := true }
def FnOctadMeetUptoSaid : Prop := fnOctadMeetUptoRow.holds Tryd.pinned (OpenSpec.upto fnOctadMeetSpec)

/-- 'laws.FnOctadPair', WHERE WHAT IT READS IS OF BULK AT MOST 1048576: true; the input reads as it did. -/
def fnOctadPairUptoRow : OpenClaim := { program := "ytiinekoepoonfaadoor", sum := "b20cfdfd6f1ac3d12d6d1c3410e3a34d77b0c541fd7c8384dcfb8f82604643f5", func := "loop.example/golayoctads/laws.FnOctadPair", spec := "fnOctadPair", unfollowed := true, recurses := true, named := ["math/bits.deBruijn32tab", "loop.example/golayoctads/impl.bareColumns", "loop.example/golayoctads/impl.digitProducts"], apart := false, laid := [("math/bits.deBruijn32tab", laid_math_bits_deBruijn32tab), ("loop.example/golayoctads/impl.digitProducts", laid_loop_example_golayoctads_impl_digitProducts), ("loop.example/golayoctads/impl.bareColumns", laid_loop_example_golayoctads_impl_bareColumns)], narrowed := true }
def FnOctadPairUptoSaid : Prop := fnOctadPairUptoRow.holds Tryd.pinned (OpenSpec.upto fnOctadPairSpec)

/-- 'laws.FnDodecad', WHERE WHAT IT READS IS OF BULK AT MOST 1048576: true; the input reads as it did. -/
def fnDodecadUptoRow : OpenClaim := { program := "ytiinekoepoonfaadoor", sum := "b20cfdfd6f1ac3d12d6d1c3410e3a34d77b0c541fd7c8384dcfb8f82604643f5", func := "loop.example/golayoctads/laws.FnDodecad", spec := "fnDodecad", unfollowed := true, recurses := true, named := ["math/bits.deBruijn32tab", "loop.example/golayoctads/impl.bareColumns", "loop.example/golayoctads/impl.digitProducts"], apart := false, laid := [("math/bits.deBruijn32tab", laid_math_bits_deBruijn32tab), ("loop.example/golayoctads/impl.digitProducts", laid_loop_example_golayoctads_impl_digitProducts), ("loop.example/golayoctads/impl.bareColumns", laid_loop_example_golayoctads_impl_bareColumns)], narrowed := true }
def FnDodecadUptoSaid : Prop := fnDodecadUptoRow.holds Tryd.pinned (OpenSpec.upto fnDodecadSpec)

/-- 'laws.FnExactOctadCount', WHERE WHAT IT READS IS OF BULK AT MOST 1048576: true; the input reads as it did. -/
def fnExactOctadCountUptoRow : OpenClaim := { program := "ytiinekoepoonfaadoor", sum := "b20cfdfd6f1ac3d12d6d1c3410e3a34d77b0c541fd7c8384dcfb8f82604643f5", func := "loop.example/golayoctads/laws.FnExactOctadCount", spec := "fnExactOctadCount", unfollowed := true, recurses := true, named := ["loop.example/golayoctads/impl.bareColumns", "loop.example/golayoctads/impl.digitProducts"], apart := false, laid := [("loop.example/golayoctads/impl.digitProducts", laid_loop_example_golayoctads_impl_digitProducts), ("loop.example/golayoctads/impl.bareColumns", laid_loop_example_golayoctads_impl_bareColumns)], narrowed := true }
def FnExactOctadCountUptoSaid : Prop := fnExactOctadCountUptoRow.holds Tryd.pinned (OpenSpec.upto fnExactOctadCountSpec)

/-- 'laws.FnExactOctadMeet', WHERE WHAT IT READS IS OF BULK AT MOST 1048576: true; the input reads as it did. -/
def fnExactOctadMeetUptoRow : OpenClaim := { program := "ytiinekoepoonfaadoor", sum := "b20cfdfd6f1ac3d12d6d1c3410e3a34d77b0c541fd7c8384dcfb8f82604643f5", func := "loop.example/golayoctads/laws.FnExactOctadMeet", spec := "fnExactOctadMeet", unfollowed := true, recurses := true, named := ["math/bits.deBruijn32tab", "loop.example/golayoctads/impl.bareColumns", "loop.example/golayoctads/impl.digitProducts"], apart := false, laid := [("math/bits.deBruijn32tab", laid_math_bits_deBruijn32tab), ("loop.example/golayoctads/impl.digitProducts", laid_loop_example_golayoctads_impl_digitProducts), ("loop.example/golayoctads/impl.bareColumns", laid_loop_example_golayoctads_impl_bareColumns)], narrowed := true }
def FnExactOctadMeetUptoSaid : Prop := fnExactOctadMeetUptoRow.holds Tryd.pinned (OpenSpec.upto fnExactOctadMeetSpec)

/-- 'laws.FnExactDodecadOf', WHERE WHAT IT READS IS OF BULK AT MOST 1048576: true; the input reads as it did. -/
def fnExactDodecadOfUptoRow : OpenClaim := { program := "ytiinekoepoonfaadoor", sum := "b20cfdfd6f1ac3d12d6d1c3410e3a34d77b0c541fd7c8384dcfb8f82604643f5", func := "loop.example/golayoctads/laws.FnExactDodecadOf", spec := "fnExactDodecadOf", unfollowed := true, recurses := true, named := ["math/bits.deBruijn32tab", "loop.example/golayoctads/impl.bareColumns", "loop.example/golayoctads/impl.digitProducts"], apart := false, laid := [("math/bits.deBruijn32tab", laid_math_bits_deBruijn32tab), ("loop.example/golayoctads/impl.digitProducts", laid_loop_example_golayoctads_impl_digitProducts), ("loop.example/golayoctads/impl.bareColumns", laid_loop_example_golayoctads_impl_bareColumns)], narrowed := true }
def FnExactDodecadOfUptoSaid : Prop := fnExactDodecadOfUptoRow.holds Tryd.pinned (OpenSpec.upto fnExactDodecadOfSpec)

end Rows
end Go.Proofs.YtiinekoepoonfaaDoor
