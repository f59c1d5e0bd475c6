/-
  No cell of these rows narrows 'for every input' (looked for: loops, veiled, ifaces, maps, wideKeys, modest, calm, conditions, laid).
  DERIVED. THE GIVEN ROWS OF THIS SEAT. 5 by the template 'for every input the law returns true; each argument reads behind the call as it read before'; 0 by the template 'total and deterministic' (their statements: YtojjbdpoecmaeaaTotals.lean).
  GIVEN WITH THE SEED: the statements are not yours to turn. If you find one false, say at which input.
  Laid BY PROGRAM, IN A SANDBOX (cutbox-rows.mjs): the forced cells as the released guide's own fill.sh prints them over the translation 8daba709a6e4e0c0… (all of the seat's roots in one cut). By AI agents, Wed Nov 11 2026. No macro, syntax, notation, axiom, sorry.
-/
import Derived.Test.YtojjbdpoecmaeaaChecked
import GoSem.Claim
import GoSem.ClaimJoined
import GoSem.ClaimMapViews
import Derived.JoinedTies
import Derived.KernelRfl
namespace Go.Proofs.Ytojjbdpoecmaeaa
/- THE CELL 'sum', in the pinned program and in every row, IS THE sha256 OF THE DUMP (.gsa) THAT YtojjbdpoecmaeaaProg.lean LOADS. Nothing in Lean hashes anything: it is a label: what it is worth is what the hold of that sum in a sandbox is worth. -/
noncomputable def Try.pinned : Pinned := { name := "ytojjbdpoecmaeaa", sum := "8daba709a6e4e0c0ebf090f34fb7efc35c8f7bb5cfc4b8efa694cdf9c0b5e4ae", checked := Try.checked }
namespace Rows
def none {H : Type} : Left H := { results := [], args := [] }

/-- 'laws.FnDigitAdd': WHATEVER THE INPUT: true; the input reads as it did. -/
def fnDigitAddSpec : ChangeSpec := { name := "fnDigitAdd", fn := fun _ => fun
  | [d] => { results := [.lit (.bool true)], args := [d] }
  | _ => none }
def fnDigitAddRow : OpenClaim := { program := "ytojjbdpoecmaeaa", sum := "8daba709a6e4e0c0ebf090f34fb7efc35c8f7bb5cfc4b8efa694cdf9c0b5e4ae", func := "loop.example/golayoctads/laws.FnDigitAdd", spec := "fnDigitAdd", apart := false }
def FnDigitAddSaid : Prop := fnDigitAddRow.holds Try.pinned (OpenSpec.ofChange fnDigitAddSpec)

/-- ITS FALSE NEIGHBOUR: 'it returns false'. Refute it at one input. -/
def fnDigitAddWrong : ChangeSpec := { name := "fnDigitAdd", fn := fun _ => fun
  | [d] => { results := [.lit (.bool false)], args := [d] }
  | _ => none }
def FnDigitAddWrongFalsely : Prop := fnDigitAddRow.holds Try.pinned (OpenSpec.ofChange fnDigitAddWrong)

/-- 'laws.FnHexWeight': WHATEVER THE INPUT: true; the input reads as it did. -/
def fnHexWeightSpec : ChangeSpec := { name := "fnHexWeight", fn := fun _ => fun
  | [d] => { results := [.lit (.bool true)], args := [d] }
  | _ => none }
def fnHexWeightRow : OpenClaim := { program := "ytojjbdpoecmaeaa", sum := "8daba709a6e4e0c0ebf090f34fb7efc35c8f7bb5cfc4b8efa694cdf9c0b5e4ae", func := "loop.example/golayoctads/laws.FnHexWeight", spec := "fnHexWeight", apart := false }
def FnHexWeightSaid : Prop := fnHexWeightRow.holds Try.pinned (OpenSpec.ofChange fnHexWeightSpec)

/-- ITS FALSE NEIGHBOUR: 'it returns false'. Refute it at one input. -/
def fnHexWeightWrong : ChangeSpec := { name := "fnHexWeight", fn := fun _ => fun
  | [d] => { results := [.lit (.bool false)], args := [d] }
  | _ => none }
def FnHexWeightWrongFalsely : Prop := fnHexWeightRow.holds Try.pinned (OpenSpec.ofChange fnHexWeightWrong)

/-- 'laws.FnExactDigitAdd': WHATEVER THE INPUT: true; the input reads as it did. -/
def fnExactDigitAddSpec : ChangeSpec := { name := "fnExactDigitAdd", fn := fun _ => fun
  | [d1, d2] => { results := [.lit (.bool true)], args := [d1, d2] }
  | _ => none }
def fnExactDigitAddRow : OpenClaim := { program := "ytojjbdpoecmaeaa", sum := "8daba709a6e4e0c0ebf090f34fb7efc35c8f7bb5cfc4b8efa694cdf9c0b5e4ae", func := "loop.example/golayoctads/laws.FnExactDigitAdd", spec := "fnExactDigitAdd", apart := false }
def FnExactDigitAddSaid : Prop := fnExactDigitAddRow.holds Try.pinned (OpenSpec.ofChange fnExactDigitAddSpec)

/-- ITS FALSE NEIGHBOUR: 'it returns false'. Refute it at one input. -/
def fnExactDigitAddWrong : ChangeSpec := { name := "fnExactDigitAdd", fn := fun _ => fun
  | [d1, d2] => { results := [.lit (.bool false)], args := [d1, d2] }
  | _ => none }
def FnExactDigitAddWrongFalsely : Prop := fnExactDigitAddRow.holds Try.pinned (OpenSpec.ofChange fnExactDigitAddWrong)

/-- 'laws.FnExactHexAdd': WHATEVER THE INPUT: true; the input reads as it did. -/
def fnExactHexAddSpec : ChangeSpec := { name := "fnExactHexAdd", fn := fun _ => fun
  | [d1, d2] => { results := [.lit (.bool true)], args := [d1, d2] }
  | _ => none }
def fnExactHexAddRow : OpenClaim := { program := "ytojjbdpoecmaeaa", sum := "8daba709a6e4e0c0ebf090f34fb7efc35c8f7bb5cfc4b8efa694cdf9c0b5e4ae", func := "loop.example/golayoctads/laws.FnExactHexAdd", spec := "fnExactHexAdd", apart := false }
def FnExactHexAddSaid : Prop := fnExactHexAddRow.holds Try.pinned (OpenSpec.ofChange fnExactHexAddSpec)

/-- ITS FALSE NEIGHBOUR: 'it returns false'. Refute it at one input. -/
def fnExactHexAddWrong : ChangeSpec := { name := "fnExactHexAdd", fn := fun _ => fun
  | [d1, d2] => { results := [.lit (.bool false)], args := [d1, d2] }
  | _ => none }
def FnExactHexAddWrongFalsely : Prop := fnExactHexAddRow.holds Try.pinned (OpenSpec.ofChange fnExactHexAddWrong)

/-- 'laws.FnExactHexWeight': WHATEVER THE INPUT: true; the input reads as it did. -/
def fnExactHexWeightSpec : ChangeSpec := { name := "fnExactHexWeight", fn := fun _ => fun
  | [d] => { results := [.lit (.bool true)], args := [d] }
  | _ => none }
def fnExactHexWeightRow : OpenClaim := { program := "ytojjbdpoecmaeaa", sum := "8daba709a6e4e0c0ebf090f34fb7efc35c8f7bb5cfc4b8efa694cdf9c0b5e4ae", func := "loop.example/golayoctads/laws.FnExactHexWeight", spec := "fnExactHexWeight", apart := false }
def FnExactHexWeightSaid : Prop := fnExactHexWeightRow.holds Try.pinned (OpenSpec.ofChange fnExactHexWeightSpec)

/-- ITS FALSE NEIGHBOUR: 'it returns false'. Refute it at one input. -/
def fnExactHexWeightWrong : ChangeSpec := { name := "fnExactHexWeight", fn := fun _ => fun
  | [d] => { results := [.lit (.bool false)], args := [d] }
  | _ => none }
def FnExactHexWeightWrongFalsely : Prop := fnExactHexWeightRow.holds Try.pinned (OpenSpec.ofChange fnExactHexWeightWrong)

/- THE SECOND FORM. 'bulk': how many values and letters a reading holds, each counted each time it is reached (what is shared counts as often as it is met; a slice's spare places count too). A statement '..UptoSaid' is the law's where the arguments, and the package variables that the reading takes, are together of bulk at most 1048576: NARROWER than '..Said'. Prove '..Said' where nothing that the law and all that it calls make is longer than what came in: it says more and counts as full. Else prove '..UptoSaid'. A law counts once. -/
mutual
def uptoBulk {H : Type} : DataW H → Nat
  | .lit (.string bytes) => bytes.length + 1
  | .lit _ => 1
  | .nil => 1
  | .ptr d => uptoBulk d + 1
  | .slice elems spare => uptoBulkAll elems + uptoBulkAll spare + 1
  | .agg parts => uptoBulkAll parts + 1
  | .iface _ d => uptoBulk d + 1
  | .map entries => uptoBulkEntries entries + 1
  | .held _ => 1
def uptoBulkAll {H : Type} : List (DataW H) → Nat
  | [] => 0
  | d :: r => uptoBulk d + uptoBulkAll r
def uptoBulkEntries {H : Type} : List (Lit × DataW H) → Nat
  | [] => 0
  | x :: r => uptoBulkEntry x + uptoBulkEntries r
def uptoBulkEntry {H : Type} : Lit × DataW H → Nat
  | (.string bytes, d) => bytes.length + uptoBulk d + 1
  | (_, d) => uptoBulk d + 1
 end
def uptoSmall : (H : Type) → List (DataW H) → Bool := fun _ ds => decide (uptoBulkAll ds ≤ 1048576)
def OpenSpec.upto (s : _root_.Go.ChangeSpec) : _root_.Go.OpenSpec := { _root_.Go.OpenSpec.ofChange s with cond := some uptoSmall }

/-- 'laws.FnDigitAdd', WHERE WHAT IT READS IS OF BULK AT MOST 1048576: true; the input reads as it did. -/
def fnDigitAddUptoRow : OpenClaim := { program := "ytojjbdpoecmaeaa", sum := "8daba709a6e4e0c0ebf090f34fb7efc35c8f7bb5cfc4b8efa694cdf9c0b5e4ae", func := "loop.example/golayoctads/laws.FnDigitAdd", spec := "fnDigitAdd", apart := false, narrowed := true }
def FnDigitAddUptoSaid : Prop := fnDigitAddUptoRow.holds Try.pinned (OpenSpec.upto fnDigitAddSpec)

/-- 'laws.FnHexWeight', WHERE WHAT IT READS IS OF BULK AT MOST 1048576: true; the input reads as it did. -/
def fnHexWeightUptoRow : OpenClaim := { program := "ytojjbdpoecmaeaa", sum := "8daba709a6e4e0c0ebf090f34fb7efc35c8f7bb5cfc4b8efa694cdf9c0b5e4ae", func := "loop.example/golayoctads/laws.FnHexWeight", spec := "fnHexWeight", apart := false, narrowed := true }
def FnHexWeightUptoSaid : Prop := fnHexWeightUptoRow.holds Try.pinned (OpenSpec.upto fnHexWeightSpec)

/-- 'laws.FnExactDigitAdd', WHERE WHAT IT READS IS OF BULK AT MOST 1048576: true; the input reads as it did. -/
def fnExactDigitAddUptoRow : OpenClaim := { program := "ytojjbdpoecmaeaa", sum := "8daba709a6e4e0c0ebf090f34fb7efc35c8f7bb5cfc4b8efa694cdf9c0b5e4ae", func := "loop.example/golayoctads/laws.FnExactDigitAdd", spec := "fnExactDigitAdd", apart := false, narrowed := true }
def FnExactDigitAddUptoSaid : Prop := fnExactDigitAddUptoRow.holds Try.pinned (OpenSpec.upto fnExactDigitAddSpec)

/-- 'laws.FnExactHexAdd', WHERE WHAT IT READS IS OF BULK AT MOST 1048576: true; the input reads as it did. -/
def fnExactHexAddUptoRow : OpenClaim := { program := "ytojjbdpoecmaeaa", sum := "8daba709a6e4e0c0ebf090f34fb7efc35c8f7bb5cfc4b8efa694cdf9c0b5e4ae", func := "loop.example/golayoctads/laws.FnExactHexAdd", spec := "fnExactHexAdd", apart := false, narrowed := true }
def FnExactHexAddUptoSaid : Prop := fnExactHexAddUptoRow.holds Try.pinned (OpenSpec.upto fnExactHexAddSpec)

/-- 'laws.FnExactHexWeight', WHERE WHAT IT READS IS OF BULK AT MOST 1048576: true; the input reads as it did. -/
def fnExactHexWeightUptoRow : OpenClaim := { program := "ytojjbdpoecmaeaa", sum := "8daba709a6e4e0c0ebf090f34fb7efc35c8f7bb5cfc4b8efa694cdf9c0b5e4ae", func := "loop.example/golayoctads/laws.FnExactHexWeight", spec := "fnExactHexWeight", apart := false, narrowed := true }
def FnExactHexWeightUptoSaid : Prop := fnExactHexWeightUptoRow.holds Try.pinned (OpenSpec.upto fnExactHexWeightSpec)

end Rows
end Go.Proofs.Ytojjbdpoecmaeaa
