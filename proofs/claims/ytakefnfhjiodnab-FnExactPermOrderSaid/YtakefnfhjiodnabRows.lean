/-
  No cell of these rows narrows 'for every input' (looked for: loops, veiled, ifaces, maps, wideKeys, modest, calm, conditions, laid).
  DERIVED. THE GIVEN ROWS OF THIS SEAT. 6 by the template 'for every input the law returns true; each argument reads behind the call as it read before'; 0 by the template 'total and deterministic' (their statements: YtakefnfhjiodnabTotals.lean).
  GIVEN WITH THE SEED: the statements are not yours to turn. If you find one false, say at which input.
  Laid BY PROGRAM, IN A SANDBOX (cutbox-rows.mjs): the forced cells as the released guide's own fill.sh prints them over the translation d0e2ea95f9c9a915… (all of the seat's roots in one cut). By AI agents, Wed Nov 11 2026. No macro, syntax, notation, axiom, sorry.
-/
import Derived.Test.YtakefnfhjiodnabChecked
import GoSem.Claim
import GoSem.ClaimJoined
import GoSem.ClaimMapViews
import Derived.JoinedTies
import Derived.KernelRfl
namespace Go.Proofs.Ytakefnfhjiodnab
/- THE CELL 'sum', in the pinned program and in every row, IS THE sha256 OF THE DUMP (.gsa) THAT YtakefnfhjiodnabProg.lean LOADS. Nothing in Lean hashes anything: it is a label: what it is worth is what the hold of that sum in a sandbox is worth. -/
noncomputable def Try.pinned : Pinned := { name := "ytakefnfhjiodnab", sum := "d0e2ea95f9c9a9151a8a5d35256074196b6cda94f70f74a4ec087d9e7813f21a", checked := Try.checked }
namespace Rows
def none {H : Type} : Left H := { results := [], args := [] }

/-- 'laws.FnExactPermValid': WHATEVER THE INPUT: true; the input reads as it did. -/
def fnExactPermValidSpec : ChangeSpec := { name := "fnExactPermValid", fn := fun _ => fun
  | [d] => { results := [.lit (.bool true)], args := [d] }
  | _ => none }
def fnExactPermValidRow : OpenClaim := { program := "ytakefnfhjiodnab", sum := "d0e2ea95f9c9a9151a8a5d35256074196b6cda94f70f74a4ec087d9e7813f21a", func := "loop.example/golayoctads/laws.FnExactPermValid", spec := "fnExactPermValid", plainKeys := false, apart := false }
def FnExactPermValidSaid : Prop := fnExactPermValidRow.holds Try.pinned (OpenSpec.ofChange fnExactPermValidSpec)

/-- ITS FALSE NEIGHBOUR: 'it returns false'. Refute it at one input. -/
def fnExactPermValidWrong : ChangeSpec := { name := "fnExactPermValid", fn := fun _ => fun
  | [d] => { results := [.lit (.bool false)], args := [d] }
  | _ => none }
def FnExactPermValidWrongFalsely : Prop := fnExactPermValidRow.holds Try.pinned (OpenSpec.ofChange fnExactPermValidWrong)

/-- 'laws.FnExactPermTimes': WHATEVER THE INPUT: true; the input reads as it did. -/
def fnExactPermTimesSpec : ChangeSpec := { name := "fnExactPermTimes", fn := fun _ => fun
  | [d1, d2] => { results := [.lit (.bool true)], args := [d1, d2] }
  | _ => none }
def fnExactPermTimesRow : OpenClaim := { program := "ytakefnfhjiodnab", sum := "d0e2ea95f9c9a9151a8a5d35256074196b6cda94f70f74a4ec087d9e7813f21a", func := "loop.example/golayoctads/laws.FnExactPermTimes", spec := "fnExactPermTimes", plainKeys := false, apart := false }
def FnExactPermTimesSaid : Prop := fnExactPermTimesRow.holds Try.pinned (OpenSpec.ofChange fnExactPermTimesSpec)

/-- ITS FALSE NEIGHBOUR: 'it returns false'. Refute it at one input. -/
def fnExactPermTimesWrong : ChangeSpec := { name := "fnExactPermTimes", fn := fun _ => fun
  | [d1, d2] => { results := [.lit (.bool false)], args := [d1, d2] }
  | _ => none }
def FnExactPermTimesWrongFalsely : Prop := fnExactPermTimesRow.holds Try.pinned (OpenSpec.ofChange fnExactPermTimesWrong)

/-- 'laws.FnExactPermTurned': WHATEVER THE INPUT: true; the input reads as it did. -/
def fnExactPermTurnedSpec : ChangeSpec := { name := "fnExactPermTurned", fn := fun _ => fun
  | [d] => { results := [.lit (.bool true)], args := [d] }
  | _ => none }
def fnExactPermTurnedRow : OpenClaim := { program := "ytakefnfhjiodnab", sum := "d0e2ea95f9c9a9151a8a5d35256074196b6cda94f70f74a4ec087d9e7813f21a", func := "loop.example/golayoctads/laws.FnExactPermTurned", spec := "fnExactPermTurned", plainKeys := false, apart := false }
def FnExactPermTurnedSaid : Prop := fnExactPermTurnedRow.holds Try.pinned (OpenSpec.ofChange fnExactPermTurnedSpec)

/-- ITS FALSE NEIGHBOUR: 'it returns false'. Refute it at one input. -/
def fnExactPermTurnedWrong : ChangeSpec := { name := "fnExactPermTurned", fn := fun _ => fun
  | [d] => { results := [.lit (.bool false)], args := [d] }
  | _ => none }
def FnExactPermTurnedWrongFalsely : Prop := fnExactPermTurnedRow.holds Try.pinned (OpenSpec.ofChange fnExactPermTurnedWrong)

/-- 'laws.FnExactPermCycles': WHATEVER THE INPUT: true; the input reads as it did. -/
def fnExactPermCyclesSpec : ChangeSpec := { name := "fnExactPermCycles", fn := fun _ => fun
  | [d] => { results := [.lit (.bool true)], args := [d] }
  | _ => none }
def fnExactPermCyclesRow : OpenClaim := { program := "ytakefnfhjiodnab", sum := "d0e2ea95f9c9a9151a8a5d35256074196b6cda94f70f74a4ec087d9e7813f21a", func := "loop.example/golayoctads/laws.FnExactPermCycles", spec := "fnExactPermCycles", recurses := true, plainKeys := false, apart := false }
def FnExactPermCyclesSaid : Prop := fnExactPermCyclesRow.holds Try.pinned (OpenSpec.ofChange fnExactPermCyclesSpec)

/-- ITS FALSE NEIGHBOUR: 'it returns false'. Refute it at one input. -/
def fnExactPermCyclesWrong : ChangeSpec := { name := "fnExactPermCycles", fn := fun _ => fun
  | [d] => { results := [.lit (.bool false)], args := [d] }
  | _ => none }
def FnExactPermCyclesWrongFalsely : Prop := fnExactPermCyclesRow.holds Try.pinned (OpenSpec.ofChange fnExactPermCyclesWrong)

/-- 'laws.FnExactPermOrder': WHATEVER THE INPUT: true; the input reads as it did. -/
def fnExactPermOrderSpec : ChangeSpec := { name := "fnExactPermOrder", fn := fun _ => fun
  | [d] => { results := [.lit (.bool true)], args := [d] }
  | _ => none }
def fnExactPermOrderRow : OpenClaim := { program := "ytakefnfhjiodnab", sum := "d0e2ea95f9c9a9151a8a5d35256074196b6cda94f70f74a4ec087d9e7813f21a", func := "loop.example/golayoctads/laws.FnExactPermOrder", spec := "fnExactPermOrder", recurses := true, plainKeys := false, apart := false }
def FnExactPermOrderSaid : Prop := fnExactPermOrderRow.holds Try.pinned (OpenSpec.ofChange fnExactPermOrderSpec)

/-- ITS FALSE NEIGHBOUR: 'it returns false'. Refute it at one input. -/
def fnExactPermOrderWrong : ChangeSpec := { name := "fnExactPermOrder", fn := fun _ => fun
  | [d] => { results := [.lit (.bool false)], args := [d] }
  | _ => none }
def FnExactPermOrderWrongFalsely : Prop := fnExactPermOrderRow.holds Try.pinned (OpenSpec.ofChange fnExactPermOrderWrong)

/-- 'laws.FnExactPermFixed': WHATEVER THE INPUT: true; the input reads as it did. -/
def fnExactPermFixedSpec : ChangeSpec := { name := "fnExactPermFixed", fn := fun _ => fun
  | [d] => { results := [.lit (.bool true)], args := [d] }
  | _ => none }
def fnExactPermFixedRow : OpenClaim := { program := "ytakefnfhjiodnab", sum := "d0e2ea95f9c9a9151a8a5d35256074196b6cda94f70f74a4ec087d9e7813f21a", func := "loop.example/golayoctads/laws.FnExactPermFixed", spec := "fnExactPermFixed", plainKeys := false, apart := false }
def FnExactPermFixedSaid : Prop := fnExactPermFixedRow.holds Try.pinned (OpenSpec.ofChange fnExactPermFixedSpec)

/-- ITS FALSE NEIGHBOUR: 'it returns false'. Refute it at one input. -/
def fnExactPermFixedWrong : ChangeSpec := { name := "fnExactPermFixed", fn := fun _ => fun
  | [d] => { results := [.lit (.bool false)], args := [d] }
  | _ => none }
def FnExactPermFixedWrongFalsely : Prop := fnExactPermFixedRow.holds Try.pinned (OpenSpec.ofChange fnExactPermFixedWrong)

/- THE SECOND FORM. 'bulk': how many values and letters a reading holds, each counted each time it is reached (what is shared counts as often as it is met; a slice's spare places count too). A statement '..UptoSaid' is the law's where the arguments, and the package variables that the reading takes, are together of bulk at most 1048576: NARROWER than '..Said'. Prove '..Said' where nothing that the law and all that it calls make is longer than what came in: it says more and counts as full. Else prove '..UptoSaid'. A law counts once. -/
mutual
def uptoBulk {H : Type} : DataW H → Nat
  | .lit (.string bytes) => bytes.length + 1
  | .lit _ => 1
  | .nil => 1
  | .ptr d => uptoBulk d + 1
  | .slice elems spare => uptoBulkAll elems + uptoBulkAll spare + 1
  | .agg parts => uptoBulkAll parts + 1
  | .iface _ d => uptoBulk d + 1
  | .map entries => uptoBulkEntries entries + 1
  | .held _ => 1
def uptoBulkAll {H : Type} : List (DataW H) → Nat
  | [] => 0
  | d :: r => uptoBulk d + uptoBulkAll r
def uptoBulkEntries {H : Type} : List (Lit × DataW H) → Nat
  | [] => 0
  | x :: r => uptoBulkEntry x + uptoBulkEntries r
def uptoBulkEntry {H : Type} : Lit × DataW H → Nat
  | (.string bytes, d) => bytes.length + uptoBulk d + 1
  | (_, d) => uptoBulk d + 1
 end
def uptoSmall : (H : Type) → List (DataW H) → Bool := fun _ ds => decide (uptoBulkAll ds ≤ 1048576)
def OpenSpec.upto (s : _root_.Go.ChangeSpec) : _root_.Go.OpenSpec := { _root_.Go.OpenSpec.ofChange s with cond := some uptoSmall }

/-- 'laws.FnExactPermValid', WHERE WHAT IT READS IS OF BULK AT MOST 1048576: true; the input reads as it did. -/
def fnExactPermValidUptoRow : OpenClaim := { program := "ytakefnfhjiodnab", sum := "d0e2ea95f9c9a9151a8a5d35256074196b6cda94f70f74a4ec087d9e7813f21a", func := "loop.example/golayoctads/laws.FnExactPermValid", spec := "fnExactPermValid", plainKeys := false, apart := false, narrowed := true }
def FnExactPermValidUptoSaid : Prop := fnExactPermValidUptoRow.holds Try.pinned (OpenSpec.upto fnExactPermValidSpec)

/-- 'laws.FnExactPermTimes', WHERE WHAT IT READS IS OF BULK AT MOST 1048576: true; the input reads as it did. -/
def fnExactPermTimesUptoRow : OpenClaim := { program := "ytakefnfhjiodnab", sum := "d0e2ea95f9c9a9151a8a5d35256074196b6cda94f70f74a4ec087d9e7813f21a", func := "loop.example/golayoctads/laws.FnExactPermTimes", spec := "fnExactPermTimes", plainKeys := false, apart := false, narrowed := true }
def FnExactPermTimesUptoSaid : Prop := fnExactPermTimesUptoRow.holds Try.pinned (OpenSpec.upto fnExactPermTimesSpec)

/-- 'laws.FnExactPermTurned', WHERE WHAT IT READS IS OF BULK AT MOST 1048576: true; the input reads as it did. -/
def fnExactPermTurnedUptoRow : OpenClaim := { program := "ytakefnfhjiodnab", sum := "d0e2ea95f9c9a9151a8a5d35256074196b6cda94f70f74a4ec087d9e7813f21a", func := "loop.example/golayoctads/laws.FnExactPermTurned", spec := "fnExactPermTurned", plainKeys := false, apart := false, narrowed := true }
def FnExactPermTurnedUptoSaid : Prop := fnExactPermTurnedUptoRow.holds Try.pinned (OpenSpec.upto fnExactPermTurnedSpec)

/-- 'laws.FnExactPermCycles', WHERE WHAT IT READS IS OF BULK AT MOST 1048576: true; the input reads as it did. -/
def fnExactPermCyclesUptoRow : OpenClaim := { program := "ytakefnfhjiodnab", sum := "d0e2ea95f9c9a9151a8a5d35256074196b6cda94f70f74a4ec087d9e7813f21a", func := "loop.example/golayoctads/laws.FnExactPermCycles", spec := "fnExactPermCycles", recurses := true, plainKeys := false, apart := false, narrowed := true }
def FnExactPermCyclesUptoSaid : Prop := fnExactPermCyclesUptoRow.holds Try.pinned (OpenSpec.upto fnExactPermCyclesSpec)

/-- 'laws.FnExactPermOrder', WHERE WHAT IT READS IS OF BULK AT MOST 1048576: true; the input reads as it did. -/
def fnExactPermOrderUptoRow : OpenClaim := { program := "ytakefnfhjiodnab", sum := "d0e2ea95f9c9a9151a8a5d35256074196b6cda94f70f74a4ec087d9e7813f21a", func := "loop.example/golayoctads/laws.FnExactPermOrder", spec := "fnExactPermOrder", recurses := true, plainKeys := false, apart := false, narrowed := true }
def FnExactPermOrderUptoSaid : Prop := fnExactPermOrderUptoRow.holds Try.pinned (OpenSpec.upto fnExactPermOrderSpec)

/-- 'laws.FnExactPermFixed', WHERE WHAT IT READS IS OF BULK AT MOST 1048576: true; the input reads as it did. -/
def fnExactPermFixedUptoRow : OpenClaim := { program := "ytakefnfhjiodnab", sum := "d0e2ea95f9c9a9151a8a5d35256074196b6cda94f70f74a4ec087d9e7813f21a", func := "loop.example/golayoctads/laws.FnExactPermFixed", spec := "fnExactPermFixed", plainKeys := false, apart := false, narrowed := true }
def FnExactPermFixedUptoSaid : Prop := fnExactPermFixedUptoRow.holds Try.pinned (OpenSpec.upto fnExactPermFixedSpec)

end Rows
end Go.Proofs.Ytakefnfhjiodnab
