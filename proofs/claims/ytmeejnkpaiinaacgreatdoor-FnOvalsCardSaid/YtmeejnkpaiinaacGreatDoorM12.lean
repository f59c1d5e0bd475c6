/- A listed table of numbers, read out of the row's premise: arrays, and arrays of arrays. No program is named here. -/
import Derived.OpenShut
import Derived.LaidMore
import Derived.ProofKit
import Derived.ChangeArms
namespace Go.Proofs.YtmeejnkpaiinaacGreatDoor
set_option linter.unusedVariables false

section
variable {H : Type} {enc : TypeId × Value → H} {P : Program} {w : World} {base fuel n m : Nat} {spare : Nat → Bool} {held : Bool} {t e d : TypeId} {k : IntKind} {cs : List Value} {x : DataW H × List MemPlace}
theorem tab_flat (hu : P.underlying t = some (.array n d)) (hu3 : P.underlying d = some (.int k)) (c2 : P.cellsOf d = 1)
    (h : DataW.trod enc P w base spare held fuel t cs = some x) (xs0 : List Int) (hx : x.1 = .agg (xs0.map fun z => .lit (.int k z))) (b : Nat) (hb : b < n) :
    cs[b]? = some (.int k (xs0.getD b 0)) := by
  obtain ⟨ys, f2, _, ey, hcl2, hl2, hel2⟩ := DataW.trod_array hu h
  have hE2 := hel2 b hb
  rw [c2, Nat.mul_one, List.getElem?_eq_getElem (by omega)] at hE2
  obtain ⟨z, e1, e2, _⟩ := DataW.trod_int hu3 hE2
  have q2 : ys.map (·.1) = xs0.map fun z => (DataW.lit (.int k z) : DataW H) := by
    rw [ey] at hx; exact DataW.agg.inj hx
  have q3 : (ys.map (·.1))[b]? = (xs0.map fun z => (DataW.lit (.int k z) : DataW H))[b]? := by rw [q2]
  have hlr : xs0.length = n := by have := congrArg List.length q2; simpa [hl2] using this.symm
  rw [List.getElem?_map, List.getElem?_map, List.getElem?_eq_getElem (by omega : b < ys.length), List.getElem?_eq_getElem (by omega : b < xs0.length), e2] at q3
  have hz : z = xs0.getD b 0 := by
    simp only [Option.map_some, Option.some.injEq, DataW.lit.injEq, Lit.int.injEq, true_and] at q3
    rw [q3, List.getD_eq_getElem?_getD, List.getElem?_eq_getElem (by omega : b < xs0.length)]; rfl
  rw [← hz]
  have h0 : ((cs.drop b).take 1)[0]? = some (.int k z) := by rw [e1]; rfl
  simpa using h0
theorem tab_nested (hu : P.underlying t = some (.array n e)) (hu2 : P.underlying e = some (.array m d)) (hu3 : P.underlying d = some (.int k)) (c1 : P.cellsOf e = m) (c2 : P.cellsOf d = 1)
    (h : DataW.trod enc P w base spare held fuel t cs = some x) (rows : List (List Int)) (hx : x.1 = .agg (rows.map fun r => .agg (r.map fun z => .lit (.int k z)))) (a b : Nat) (ha : a < n) (hb : b < m) :
    cs[a * m + b]? = some (.int k ((rows.getD a []).getD b 0)) := by
  obtain ⟨xs, f1, _, ex, hcl, hl, hel⟩ := DataW.trod_array hu h
  have hE := hel a ha
  rw [c1, List.getElem?_eq_getElem (by omega)] at hE
  have q1 : xs.map (·.1) = rows.map fun r => (DataW.agg (r.map fun z => .lit (.int k z)) : DataW H) := by
    rw [ex] at hx; exact DataW.agg.inj hx
  have hlr : rows.length = n := by have := congrArg List.length q1; simpa [hl] using this.symm
  have q2 : (xs.map (·.1))[a]? = (rows.map fun r => (DataW.agg (r.map fun z => .lit (.int k z)) : DataW H))[a]? := by rw [q1]
  rw [List.getElem?_map, List.getElem?_map, List.getElem?_eq_getElem (by omega : a < xs.length), List.getElem?_eq_getElem (by omega : a < rows.length)] at q2
  simp only [Option.map_some, Option.some.injEq] at q2
  have := tab_flat hu2 hu3 c2 hE rows[a] q2 b hb
  rw [List.getD_eq_getElem?_getD (l := rows), List.getElem?_eq_getElem (by omega : a < rows.length)]
  rw [List.getElem?_take_of_lt hb, List.getElem?_drop] at this
  exact this
end
end Go.Proofs.YtmeejnkpaiinaacGreatDoor
