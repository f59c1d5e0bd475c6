/-
  No cell of these rows narrows 'for every input' (looked for: loops, veiled, ifaces, maps, wideKeys, modest, calm, conditions, laid).
  DERIVED. THE GIVEN ROWS OF THIS SEAT. 6 by the template 'for every input the law returns true; each argument reads behind the call as it read before'; 0 by the template 'total and deterministic' (their statements: YtepaaijlkimmeaaTotals.lean).
  GIVEN WITH THE SEED: the statements are not yours to turn. If you find one false, say at which input.
  Laid BY PROGRAM, IN A SANDBOX (cutbox-rows.mjs): the forced cells as the released guide's own fill.sh prints them over the translation 309238dc77195d66… (all of the seat's roots in one cut). By AI agents, Wed Nov 11 2026. No macro, syntax, notation, axiom, sorry.
-/
import Derived.Test.YtepaaijlkimmeaaChecked
import GoSem.Claim
import GoSem.ClaimJoined
import GoSem.ClaimMapViews
import Derived.JoinedTies
import Derived.KernelRfl
namespace Go.Proofs.Ytepaaijlkimmeaa
/- THE CELL 'sum', in the pinned program and in every row, IS THE sha256 OF THE DUMP (.gsa) THAT YtepaaijlkimmeaaProg.lean LOADS. Nothing in Lean hashes anything: it is a label: what it is worth is what the hold of that sum in a sandbox is worth. -/
noncomputable def Try.pinned : Pinned := { name := "ytepaaijlkimmeaa", sum := "309238dc77195d669769e53fe4db78f4849cd5d2078d41acacbfd6cc655af604", checked := Try.checked }
namespace Rows
def none {H : Type} : Left H := { results := [], args := [] }

/-- 'laws.FnSquare': WHATEVER THE INPUT: true; the input reads as it did. -/
def fnSquareSpec : ChangeSpec := { name := "fnSquare", fn := fun _ => fun
  | [d] => { results := [.lit (.bool true)], args := [d] }
  | _ => none }
def fnSquareRow : OpenClaim := { program := "ytepaaijlkimmeaa", sum := "309238dc77195d669769e53fe4db78f4849cd5d2078d41acacbfd6cc655af604", func := "loop.example/golayoctads/laws.FnSquare", spec := "fnSquare", apart := false }
def FnSquareSaid : Prop := fnSquareRow.holds Try.pinned (OpenSpec.ofChange fnSquareSpec)

/-- ITS FALSE NEIGHBOUR: 'it returns false'. Refute it at one input. -/
def fnSquareWrong : ChangeSpec := { name := "fnSquare", fn := fun _ => fun
  | [d] => { results := [.lit (.bool false)], args := [d] }
  | _ => none }
def FnSquareWrongFalsely : Prop := fnSquareRow.holds Try.pinned (OpenSpec.ofChange fnSquareWrong)

/-- 'laws.FnResidueTurned': WHATEVER THE INPUT: true; the input reads as it did. -/
def fnResidueTurnedSpec : ChangeSpec := { name := "fnResidueTurned", fn := fun _ => fun
  | [d] => { results := [.lit (.bool true)], args := [d] }
  | _ => none }
def fnResidueTurnedRow : OpenClaim := { program := "ytepaaijlkimmeaa", sum := "309238dc77195d669769e53fe4db78f4849cd5d2078d41acacbfd6cc655af604", func := "loop.example/golayoctads/laws.FnResidueTurned", spec := "fnResidueTurned", apart := false }
def FnResidueTurnedSaid : Prop := fnResidueTurnedRow.holds Try.pinned (OpenSpec.ofChange fnResidueTurnedSpec)

/-- ITS FALSE NEIGHBOUR: 'it returns false'. Refute it at one input. -/
def fnResidueTurnedWrong : ChangeSpec := { name := "fnResidueTurned", fn := fun _ => fun
  | [d] => { results := [.lit (.bool false)], args := [d] }
  | _ => none }
def FnResidueTurnedWrongFalsely : Prop := fnResidueTurnedRow.holds Try.pinned (OpenSpec.ofChange fnResidueTurnedWrong)

/-- 'laws.FnMove': WHATEVER THE INPUT: true; the input reads as it did. -/
def fnMoveSpec : ChangeSpec := { name := "fnMove", fn := fun _ => fun
  | [d] => { results := [.lit (.bool true)], args := [d] }
  | _ => none }
def fnMoveRow : OpenClaim := { program := "ytepaaijlkimmeaa", sum := "309238dc77195d669769e53fe4db78f4849cd5d2078d41acacbfd6cc655af604", func := "loop.example/golayoctads/laws.FnMove", spec := "fnMove", unfollowed := true, recurses := true, apart := false }
def FnMoveSaid : Prop := fnMoveRow.holds Try.pinned (OpenSpec.ofChange fnMoveSpec)

/-- ITS FALSE NEIGHBOUR: 'it returns false'. Refute it at one input. -/
def fnMoveWrong : ChangeSpec := { name := "fnMove", fn := fun _ => fun
  | [d] => { results := [.lit (.bool false)], args := [d] }
  | _ => none }
def FnMoveWrongFalsely : Prop := fnMoveRow.holds Try.pinned (OpenSpec.ofChange fnMoveWrong)

/-- 'laws.FnExactResidueSquare': WHATEVER THE INPUT: true; the input reads as it did. -/
def fnExactResidueSquareSpec : ChangeSpec := { name := "fnExactResidueSquare", fn := fun _ => fun
  | [d] => { results := [.lit (.bool true)], args := [d] }
  | _ => none }
def fnExactResidueSquareRow : OpenClaim := { program := "ytepaaijlkimmeaa", sum := "309238dc77195d669769e53fe4db78f4849cd5d2078d41acacbfd6cc655af604", func := "loop.example/golayoctads/laws.FnExactResidueSquare", spec := "fnExactResidueSquare", apart := false }
def FnExactResidueSquareSaid : Prop := fnExactResidueSquareRow.holds Try.pinned (OpenSpec.ofChange fnExactResidueSquareSpec)

/-- ITS FALSE NEIGHBOUR: 'it returns false'. Refute it at one input. -/
def fnExactResidueSquareWrong : ChangeSpec := { name := "fnExactResidueSquare", fn := fun _ => fun
  | [d] => { results := [.lit (.bool false)], args := [d] }
  | _ => none }
def FnExactResidueSquareWrongFalsely : Prop := fnExactResidueSquareRow.holds Try.pinned (OpenSpec.ofChange fnExactResidueSquareWrong)

/-- 'laws.FnExactResidueTurned': WHATEVER THE INPUT: true; the input reads as it did. -/
def fnExactResidueTurnedSpec : ChangeSpec := { name := "fnExactResidueTurned", fn := fun _ => fun
  | [d] => { results := [.lit (.bool true)], args := [d] }
  | _ => none }
def fnExactResidueTurnedRow : OpenClaim := { program := "ytepaaijlkimmeaa", sum := "309238dc77195d669769e53fe4db78f4849cd5d2078d41acacbfd6cc655af604", func := "loop.example/golayoctads/laws.FnExactResidueTurned", spec := "fnExactResidueTurned", apart := false }
def FnExactResidueTurnedSaid : Prop := fnExactResidueTurnedRow.holds Try.pinned (OpenSpec.ofChange fnExactResidueTurnedSpec)

/-- ITS FALSE NEIGHBOUR: 'it returns false'. Refute it at one input. -/
def fnExactResidueTurnedWrong : ChangeSpec := { name := "fnExactResidueTurned", fn := fun _ => fun
  | [d] => { results := [.lit (.bool false)], args := [d] }
  | _ => none }
def FnExactResidueTurnedWrongFalsely : Prop := fnExactResidueTurnedRow.holds Try.pinned (OpenSpec.ofChange fnExactResidueTurnedWrong)

/-- 'laws.FnExactLineMove': WHATEVER THE INPUT: true; the input reads as it did. -/
def fnExactLineMoveSpec : ChangeSpec := { name := "fnExactLineMove", fn := fun _ => fun
  | [d1, d2, d3, d4, d5] => { results := [.lit (.bool true)], args := [d1, d2, d3, d4, d5] }
  | _ => none }
def fnExactLineMoveRow : OpenClaim := { program := "ytepaaijlkimmeaa", sum := "309238dc77195d669769e53fe4db78f4849cd5d2078d41acacbfd6cc655af604", func := "loop.example/golayoctads/laws.FnExactLineMove", spec := "fnExactLineMove", unfollowed := true, recurses := true, apart := false }
def FnExactLineMoveSaid : Prop := fnExactLineMoveRow.holds Try.pinned (OpenSpec.ofChange fnExactLineMoveSpec)

/-- ITS FALSE NEIGHBOUR: 'it returns false'. Refute it at one input. -/
def fnExactLineMoveWrong : ChangeSpec := { name := "fnExactLineMove", fn := fun _ => fun
  | [d1, d2, d3, d4, d5] => { results := [.lit (.bool false)], args := [d1, d2, d3, d4, d5] }
  | _ => none }
def FnExactLineMoveWrongFalsely : Prop := fnExactLineMoveRow.holds Try.pinned (OpenSpec.ofChange fnExactLineMoveWrong)

/- THE SECOND FORM. 'bulk': how many values and letters a reading holds, each counted each time it is reached (what is shared counts as often as it is met; a slice's spare places count too). A statement '..UptoSaid' is the law's where the arguments, and the package variables that the reading takes, are together of bulk at most 1048576: NARROWER than '..Said'. Prove '..Said' where nothing that the law and all that it calls make is longer than what came in: it says more and counts as full. Else prove '..UptoSaid'. A law counts once. -/
mutual
def uptoBulk {H : Type} : DataW H → Nat
  | .lit (.string bytes) => bytes.length + 1
  | .lit _ => 1
  | .nil => 1
  | .ptr d => uptoBulk d + 1
  | .slice elems spare => uptoBulkAll elems + uptoBulkAll spare + 1
  | .agg parts => uptoBulkAll parts + 1
  | .iface _ d => uptoBulk d + 1
  | .map entries => uptoBulkEntries entries + 1
  | .held _ => 1
def uptoBulkAll {H : Type} : List (DataW H) → Nat
  | [] => 0
  | d :: r => uptoBulk d + uptoBulkAll r
def uptoBulkEntries {H : Type} : List (Lit × DataW H) → Nat
  | [] => 0
  | x :: r => uptoBulkEntry x + uptoBulkEntries r
def uptoBulkEntry {H : Type} : Lit × DataW H → Nat
  | (.string bytes, d) => bytes.length + uptoBulk d + 1
  | (_, d) => uptoBulk d + 1
 end
def uptoSmall : (H : Type) → List (DataW H) → Bool := fun _ ds => decide (uptoBulkAll ds ≤ 1048576)
def OpenSpec.upto (s : _root_.Go.ChangeSpec) : _root_.Go.OpenSpec := { _root_.Go.OpenSpec.ofChange s with cond := some uptoSmall }

/-- 'laws.FnSquare', WHERE WHAT IT READS IS OF BULK AT MOST 1048576: true; the input reads as it did. -/
def fnSquareUptoRow : OpenClaim := { program := "ytepaaijlkimmeaa", sum := "309238dc77195d669769e53fe4db78f4849cd5d2078d41acacbfd6cc655af604", func := "loop.example/golayoctads/laws.FnSquare", spec := "fnSquare", apart := false, narrowed := true }
def FnSquareUptoSaid : Prop := fnSquareUptoRow.holds Try.pinned (OpenSpec.upto fnSquareSpec)

/-- 'laws.FnResidueTurned', WHERE WHAT IT READS IS OF BULK AT MOST 1048576: true; the input reads as it did. -/
def fnResidueTurnedUptoRow : OpenClaim := { program := "ytepaaijlkimmeaa", sum := "309238dc77195d669769e53fe4db78f4849cd5d2078d41acacbfd6cc655af604", func := "loop.example/golayoctads/laws.FnResidueTurned", spec := "fnResidueTurned", apart := false, narrowed := true }
def FnResidueTurnedUptoSaid : Prop := fnResidueTurnedUptoRow.holds Try.pinned (OpenSpec.upto fnResidueTurnedSpec)

/-- 'laws.FnMove', WHERE WHAT IT READS IS OF BULK AT MOST 1048576: true; the input reads as it did. -/
def fnMoveUptoRow : OpenClaim := { program := "ytepaaijlkimmeaa", sum := "309238dc77195d669769e53fe4db78f4849cd5d2078d41acacbfd6cc655af604", func := "loop.example/golayoctads/laws.FnMove", spec := "fnMove", unfollowed := true, recurses := true, apart := false, narrowed := true }
def FnMoveUptoSaid : Prop := fnMoveUptoRow.holds Try.pinned (OpenSpec.upto fnMoveSpec)

/-- 'laws.FnExactResidueSquare', WHERE WHAT IT READS IS OF BULK AT MOST 1048576: true; the input reads as it did. -/
def fnExactResidueSquareUptoRow : OpenClaim := { program := "ytepaaijlkimmeaa", sum := "309238dc77195d669769e53fe4db78f4849cd5d2078d41acacbfd6cc655af604", func := "loop.example/golayoctads/laws.FnExactResidueSquare", spec := "fnExactResidueSquare", apart := false, narrowed := true }
def FnExactResidueSquareUptoSaid : Prop := fnExactResidueSquareUptoRow.holds Try.pinned (OpenSpec.upto fnExactResidueSquareSpec)

/-- 'laws.FnExactResidueTurned', WHERE WHAT IT READS IS OF BULK AT MOST 1048576: true; the input reads as it did. -/
def fnExactResidueTurnedUptoRow : OpenClaim := { program := "ytepaaijlkimmeaa", sum := "309238dc77195d669769e53fe4db78f4849cd5d2078d41acacbfd6cc655af604", func := "loop.example/golayoctads/laws.FnExactResidueTurned", spec := "fnExactResidueTurned", apart := false, narrowed := true }
def FnExactResidueTurnedUptoSaid : Prop := fnExactResidueTurnedUptoRow.holds Try.pinned (OpenSpec.upto fnExactResidueTurnedSpec)

/-- 'laws.FnExactLineMove', WHERE WHAT IT READS IS OF BULK AT MOST 1048576: true; the input reads as it did. -/
def fnExactLineMoveUptoRow : OpenClaim := { program := "ytepaaijlkimmeaa", sum := "309238dc77195d669769e53fe4db78f4849cd5d2078d41acacbfd6cc655af604", func := "loop.example/golayoctads/laws.FnExactLineMove", spec := "fnExactLineMove", unfollowed := true, recurses := true, apart := false, narrowed := true }
def FnExactLineMoveUptoSaid : Prop := fnExactLineMoveUptoRow.holds Try.pinned (OpenSpec.upto fnExactLineMoveSpec)

end Rows
end Go.Proofs.Ytepaaijlkimmeaa
