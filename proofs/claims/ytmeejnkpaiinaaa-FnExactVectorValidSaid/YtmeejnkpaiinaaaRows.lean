/-
  No cell of these rows narrows 'for every input' (looked for: loops, veiled, ifaces, maps, wideKeys, modest, calm, conditions, laid).
  DERIVED. THE GIVEN ROWS OF THIS SEAT. 3 by the template 'for every input the law returns true; each argument reads behind the call as it read before'; 0 by the template 'total and deterministic' (their statements: YtmeejnkpaiinaaaTotals.lean).
  GIVEN WITH THE SEED: the statements are not yours to turn. If you find one false, say at which input.
  Laid BY PROGRAM, IN A SANDBOX (cutbox-rows.mjs): the forced cells as the released guide's own fill.sh prints them over the translation 09443007814a50f3… (all of the seat's roots in one cut). By AI agents, Wed Nov 11 2026. No macro, syntax, notation, axiom, sorry.
-/
import Derived.Test.YtmeejnkpaiinaaaChecked
import GoSem.Claim
import GoSem.ClaimJoined
import GoSem.ClaimMapViews
import Derived.JoinedTies
import Derived.KernelRfl
namespace Go.Proofs.Ytmeejnkpaiinaaa
/- THE CELL 'sum', in the pinned program and in every row, IS THE sha256 OF THE DUMP (.gsa) THAT YtmeejnkpaiinaaaProg.lean LOADS. Nothing in Lean hashes anything: it is a label: what it is worth is what the hold of that sum in a sandbox is worth. -/
noncomputable def Try.pinned : Pinned := { name := "ytmeejnkpaiinaaa", sum := "09443007814a50f399f4ee9095ea8b7906aa6e2402b3bc0d975b634146826d33", checked := Try.checked }
namespace Rows
def none {H : Type} : Left H := { results := [], args := [] }

/-- 'laws.FnExactVectorValid': WHATEVER THE INPUT: true; the input reads as it did. -/
def fnExactVectorValidSpec : ChangeSpec := { name := "fnExactVectorValid", fn := fun _ => fun
  | [d] => { results := [.lit (.bool true)], args := [d] }
  | _ => none }
def fnExactVectorValidRow : OpenClaim := { program := "ytmeejnkpaiinaaa", sum := "09443007814a50f399f4ee9095ea8b7906aa6e2402b3bc0d975b634146826d33", func := "loop.example/golayoctads/laws.FnExactVectorValid", spec := "fnExactVectorValid", apart := false }
def FnExactVectorValidSaid : Prop := fnExactVectorValidRow.holds Try.pinned (OpenSpec.ofChange fnExactVectorValidSpec)

/-- ITS FALSE NEIGHBOUR: 'it returns false'. Refute it at one input. -/
def fnExactVectorValidWrong : ChangeSpec := { name := "fnExactVectorValid", fn := fun _ => fun
  | [d] => { results := [.lit (.bool false)], args := [d] }
  | _ => none }
def FnExactVectorValidWrongFalsely : Prop := fnExactVectorValidRow.holds Try.pinned (OpenSpec.ofChange fnExactVectorValidWrong)

/-- 'laws.FnExactLatticeInner': WHATEVER THE INPUT: true; the input reads as it did. -/
def fnExactLatticeInnerSpec : ChangeSpec := { name := "fnExactLatticeInner", fn := fun _ => fun
  | [d1, d2] => { results := [.lit (.bool true)], args := [d1, d2] }
  | _ => none }
def fnExactLatticeInnerRow : OpenClaim := { program := "ytmeejnkpaiinaaa", sum := "09443007814a50f399f4ee9095ea8b7906aa6e2402b3bc0d975b634146826d33", func := "loop.example/golayoctads/laws.FnExactLatticeInner", spec := "fnExactLatticeInner", apart := false }
def FnExactLatticeInnerSaid : Prop := fnExactLatticeInnerRow.holds Try.pinned (OpenSpec.ofChange fnExactLatticeInnerSpec)

/-- ITS FALSE NEIGHBOUR: 'it returns false'. Refute it at one input. -/
def fnExactLatticeInnerWrong : ChangeSpec := { name := "fnExactLatticeInner", fn := fun _ => fun
  | [d1, d2] => { results := [.lit (.bool false)], args := [d1, d2] }
  | _ => none }
def FnExactLatticeInnerWrongFalsely : Prop := fnExactLatticeInnerRow.holds Try.pinned (OpenSpec.ofChange fnExactLatticeInnerWrong)

/-- 'laws.FnExactLatticeShape': WHATEVER THE INPUT: true; the input reads as it did. -/
def fnExactLatticeShapeSpec : ChangeSpec := { name := "fnExactLatticeShape", fn := fun _ => fun
  | [d] => { results := [.lit (.bool true)], args := [d] }
  | _ => none }
def fnExactLatticeShapeRow : OpenClaim := { program := "ytmeejnkpaiinaaa", sum := "09443007814a50f399f4ee9095ea8b7906aa6e2402b3bc0d975b634146826d33", func := "loop.example/golayoctads/laws.FnExactLatticeShape", spec := "fnExactLatticeShape", recurses := true, apart := false }
def FnExactLatticeShapeSaid : Prop := fnExactLatticeShapeRow.holds Try.pinned (OpenSpec.ofChange fnExactLatticeShapeSpec)

/-- ITS FALSE NEIGHBOUR: 'it returns false'. Refute it at one input. -/
def fnExactLatticeShapeWrong : ChangeSpec := { name := "fnExactLatticeShape", fn := fun _ => fun
  | [d] => { results := [.lit (.bool false)], args := [d] }
  | _ => none }
def FnExactLatticeShapeWrongFalsely : Prop := fnExactLatticeShapeRow.holds Try.pinned (OpenSpec.ofChange fnExactLatticeShapeWrong)

/- THE SECOND FORM. 'bulk': how many values and letters a reading holds, each counted each time it is reached (what is shared counts as often as it is met; a slice's spare places count too). A statement '..UptoSaid' is the law's where the arguments, and the package variables that the reading takes, are together of bulk at most 1048576: NARROWER than '..Said'. Prove '..Said' where nothing that the law and all that it calls make is longer than what came in: it says more and counts as full. Else prove '..UptoSaid'. A law counts once. -/
mutual
def uptoBulk {H : Type} : DataW H → Nat
  | .lit (.string bytes) => bytes.length + 1
  | .lit _ => 1
  | .nil => 1
  | .ptr d => uptoBulk d + 1
  | .slice elems spare => uptoBulkAll elems + uptoBulkAll spare + 1
  | .agg parts => uptoBulkAll parts + 1
  | .iface _ d => uptoBulk d + 1
  | .map entries => uptoBulkEntries entries + 1
  | .held _ => 1
def uptoBulkAll {H : Type} : List (DataW H) → Nat
  | [] => 0
  | d :: r => uptoBulk d + uptoBulkAll r
def uptoBulkEntries {H : Type} : List (Lit × DataW H) → Nat
  | [] => 0
  | x :: r => uptoBulkEntry x + uptoBulkEntries r
def uptoBulkEntry {H : Type} : Lit × DataW H → Nat
  | (.string bytes, d) => bytes.length + uptoBulk d + 1
  | (_, d) => uptoBulk d + 1
 end
def uptoSmall : (H : Type) → List (DataW H) → Bool := fun _ ds => decide (uptoBulkAll ds ≤ 1048576)
def OpenSpec.upto (s : _root_.Go.ChangeSpec) : _root_.Go.OpenSpec := { _root_.Go.OpenSpec.ofChange s with cond := some uptoSmall }

/-- 'laws.FnExactVectorValid', WHERE WHAT IT READS IS OF BULK AT MOST 1048576: true; the input reads as it did. -/
def fnExactVectorValidUptoRow : OpenClaim := { program := "ytmeejnkpaiinaaa", sum := "09443007814a50f399f4ee9095ea8b7906aa6e2402b3bc0d975b634146826d33", func := "loop.example/golayoctads/laws.FnExactVectorValid", spec := "fnExactVectorValid", apart := false, narrowed := true }
def FnExactVectorValidUptoSaid : Prop := fnExactVectorValidUptoRow.holds Try.pinned (OpenSpec.upto fnExactVectorValidSpec)

/-- 'laws.FnExactLatticeInner', WHERE WHAT IT READS IS OF BULK AT MOST 1048576: true; the input reads as it did. -/
def fnExactLatticeInnerUptoRow : OpenClaim := { program := "ytmeejnkpaiinaaa", sum := "09443007814a50f399f4ee9095ea8b7906aa6e2402b3bc0d975b634146826d33", func := "loop.example/golayoctads/laws.FnExactLatticeInner", spec := "fnExactLatticeInner", apart := false, narrowed := true }
def FnExactLatticeInnerUptoSaid : Prop := fnExactLatticeInnerUptoRow.holds Try.pinned (OpenSpec.upto fnExactLatticeInnerSpec)

/-- 'laws.FnExactLatticeShape', WHERE WHAT IT READS IS OF BULK AT MOST 1048576: true; the input reads as it did. -/
def fnExactLatticeShapeUptoRow : OpenClaim := { program := "ytmeejnkpaiinaaa", sum := "09443007814a50f399f4ee9095ea8b7906aa6e2402b3bc0d975b634146826d33", func := "loop.example/golayoctads/laws.FnExactLatticeShape", spec := "fnExactLatticeShape", recurses := true, apart := false, narrowed := true }
def FnExactLatticeShapeUptoSaid : Prop := fnExactLatticeShapeUptoRow.holds Try.pinned (OpenSpec.upto fnExactLatticeShapeSpec)

end Rows
end Go.Proofs.Ytmeejnkpaiinaaa
