import Derived.OpenShut
import Derived.LaidMore
import Derived.ProofKit
import Derived.ChangeArms
import Derived.Handed
/- A listed table of numbers, read out of the row's premise: arrays, and arrays of arrays. No program is named here. -/
namespace Go.Proofs.YtcfhfllcdliaoaaGreatDoor
set_option linter.unusedVariables false

section
variable {H : Type} {enc : TypeId × Value → H} {P : Program} {w : World} {base fuel n m : Nat} {spare : Nat → Bool} {held : Bool} {t e d : TypeId} {k : IntKind} {cs : List Value} {x : DataW H × List MemPlace}
theorem tab_flat (hu : P.underlying t = some (.array n d)) (hu3 : P.underlying d = some (.int k)) (c2 : P.cellsOf d = 1)
    (h : DataW.trod enc P w base spare held fuel t cs = some x) (xs0 : List Int) (hx : x.1 = .agg (xs0.map fun z => .lit (.int k z))) (b : Nat) (hb : b < n) :
    cs[b]? = some (.int k (xs0.getD b 0)) := by
  obtain ⟨ys, f2, _, ey, hcl2, hl2, hel2⟩ := DataW.trod_array hu h
  have hE2 := hel2 b hb
  rw [c2, Nat.mul_one, List.getElem?_eq_getElem (by omega)] at hE2
  obtain ⟨z, e1, e2, _⟩ := DataW.trod_int hu3 hE2
  have q2 : ys.map (·.1) = xs0.map fun z => (DataW.lit (.int k z) : DataW H) := by
    rw [ey] at hx; exact DataW.agg.inj hx
  have q3 : (ys.map (·.1))[b]? = (xs0.map fun z => (DataW.lit (.int k z) : DataW H))[b]? := by rw [q2]
  have hlr : xs0.length = n := by have := congrArg List.length q2; simpa [hl2] using this.symm
  rw [List.getElem?_map, List.getElem?_map, List.getElem?_eq_getElem (by omega : b < ys.length), List.getElem?_eq_getElem (by omega : b < xs0.length), e2] at q3
  have hz : z = xs0.getD b 0 := by
    simp only [Option.map_some, Option.some.injEq, DataW.lit.injEq, Lit.int.injEq, true_and] at q3
    rw [q3, List.getD_eq_getElem?_getD, List.getElem?_eq_getElem (by omega : b < xs0.length)]; rfl
  rw [← hz]
  have h0 : ((cs.drop b).take 1)[0]? = some (.int k z) := by rw [e1]; rfl
  simpa using h0
theorem tab_nested (hu : P.underlying t = some (.array n e)) (hu2 : P.underlying e = some (.array m d)) (hu3 : P.underlying d = some (.int k)) (c1 : P.cellsOf e = m) (c2 : P.cellsOf d = 1)
    (h : DataW.trod enc P w base spare held fuel t cs = some x) (rows : List (List Int)) (hx : x.1 = .agg (rows.map fun r => .agg (r.map fun z => .lit (.int k z)))) (a b : Nat) (ha : a < n) (hb : b < m) :
    cs[a * m + b]? = some (.int k ((rows.getD a []).getD b 0)) := by
  obtain ⟨xs, f1, _, ex, hcl, hl, hel⟩ := DataW.trod_array hu h
  have hE := hel a ha
  rw [c1, List.getElem?_eq_getElem (by omega)] at hE
  have q1 : xs.map (·.1) = rows.map fun r => (DataW.agg (r.map fun z => .lit (.int k z)) : DataW H) := by
    rw [ex] at hx; exact DataW.agg.inj hx
  have hlr : rows.length = n := by have := congrArg List.length q1; simpa [hl] using this.symm
  have q2 : (xs.map (·.1))[a]? = (rows.map fun r => (DataW.agg (r.map fun z => .lit (.int k z)) : DataW H))[a]? := by rw [q1]
  rw [List.getElem?_map, List.getElem?_map, List.getElem?_eq_getElem (by omega : a < xs.length), List.getElem?_eq_getElem (by omega : a < rows.length)] at q2
  simp only [Option.map_some, Option.some.injEq] at q2
  have := tab_flat hu2 hu3 c2 hE rows[a] q2 b hb
  rw [List.getD_eq_getElem?_getD (l := rows), List.getElem?_eq_getElem (by omega : a < rows.length)]
  rw [List.getElem?_take_of_lt hb, List.getElem?_drop] at this
  exact this
end
end Go.Proofs.YtcfhfllcdliaoaaGreatDoor
/- A contract over a shaped world that also has the listed variables: for rows whose call reads a variable of the library's that the row does not list. No program is named here. -/
namespace Go.Proofs.YtcfhfllcdliaoaaGreatDoor
open Go
variable {H : Type} {enc : TypeId × Value → H}

/-- Whoever returns as the contract says, in each world that has its shape and the listed variables, hands back as the row says. -/
theorem handed_listed_shaped {a : Assume} {C : Checked} {os : Os} {f : FuncId} {fn : Func} {s : ChangeSpec} {conds : List PathCond} {apart fresh handsOn again : Bool} {X : World → Array Value → Prop}
    (hX : ∀ (w w' : World) (args : Array Value), w.heap = w'.heap → X w args → X w' args)
    (own : ownKnob C.prog.godebug = none) (started : os.Started) (noInit : C.prog.inits.idxOf? f = none) (hfn : C.prog.funcs[f]? = some fn)
    (witness : ∃ (w : World) (tape : Tape) (i : Input), w.os = os ∧ (w.forCall tape i).Shaped C.prog ∧ i.vars = [] ∧ Input.okWide C.prog (w.forCall tape i) .any w.heap.size f i ∧
      ((s.pre enc C.prog fn conds apart (w.forCall tape i).memory i.args ∧ X (w.forCall tape i).memory i.args) ∧ sizedMet enc C.prog fn (OpenSpec.ofChange s) apart (w.forCall tape i).memory i.args) ∧ a.holds C.prog (lone (Frame.enter C.prog f i.args .normal) [] (w.forCall tape i)))
    (all : ∀ (W : World) (base : Nat) (args : Array Value) (ds gs : List (DataW H)) (before : List MemPlace),
      (∀ (j : Nat) t v, fn.params[j]? = some t → args[j]? = some v → Value.okWide C.prog W .any base t v) →
      DataW.Whole enc C.prog fn.params.toList s.vars apart W args.toList ds gs before →
      conds.all (PathCond.test C.prog ⟨fn.params.toList, ds, s.plain.varTypes C.prog, gs⟩) = true →
      (DataW.weightsEach C.prog (fn.params.toList ++ s.plain.varTypes C.prog) (ds ++ gs)).all (· ≤ reachBytes) = true → X W args → W.ShapedOpen C.prog →
      a.holds C.prog (lone (Frame.enter C.prog f args .normal) [] W) →
      Calls C.prog f args W fun e W' => ∃ v, e = .returned v ∧ s.post enc C.prog fn apart fresh handsOn again W args v W') :
    ReturnsInHanded a C os f .any (fun w args => (s.pre enc C.prog fn conds apart w args ∧ X w args) ∧ sizedMet enc C.prog fn (OpenSpec.ofChange s) apart w args) (s.post enc C.prog fn apart fresh handsOn again) :=
  returnsInHanded_of_calls own started noInit witness fun w tape i _ hshape _ hok hpre hhold => by
    obtain ⟨⟨⟨ds, gs, before, hw, hc⟩, hx⟩, hz⟩ := hpre
    obtain ⟨_, _, _, g, hg, _, _, _, _, hval⟩ := hok
    obtain rfl : g = fn := Option.some.inj (hg.symm.trans hfn)
    have hw2 := DataW.Whole.of_heap (w' := w.forCall tape i) (by rfl) hw
    have hcall := all (w.forCall tape i) w.heap.size i.args ds gs before hval hw2 hc (hz.weights hw) (hX _ _ _ (by rfl) hx) hshape hhold
    exact hcall.mono fun e W' ⟨v, he, hp⟩ => by
      rw [he]
      exact ChangeSpec.post_blind hp
end Go.Proofs.YtcfhfllcdliaoaaGreatDoor