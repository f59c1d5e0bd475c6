/- The statement Rows.FnExactPlaneOvalsCardSaid: for every input the Go function laws.FnExactPlaneOvals returns true, and each argument reads afterwards as it read before; no condition of mine. The frame is the kit's own shell. -/
import Derived.Test.YtnfpdonlknkccabDoorRows
import Derived.WalkKit
import Derived.ProofKit
import Derived.OpenShut
import Derived.ShutString
import Derived.ChangeOld
import Derived.Below
import Derived.LaidMore
import Derived.Lay
import Derived.SevenTiedAt
import Derived.Test.YtnfpdonlknkccabDoorTie
import Derived.Test.YtnfpdonlknkccabDoorCards
import Derived.Test.YtnfpdonlknkccabDoorM12
import Derived.ChangeVars
import Derived.OpenVars
import Derived.Test.YtnfpdonlknkccabDoorW44
namespace Go.Proofs.YtnfpdonlknkccabDoor.fnExactPlaneOvals
open Go.ChangeShapes Go.WideShapes Go.ChangeAt Go.RowKit
open Go.ChangeMaps (open_string shut_string)
set_option linter.unusedVariables false

theorem own : ownKnob Tryd.prog.godebug = none := by kernel_rfl
theorem laidOut : laidOutB Tryd.prog = true := by kernel_rfl

abbrev laidL : List (String × DataW Unit) := [("loop.example/golayoctads/impl.digitProducts", Rows.laid_loop_example_golayoctads_impl_digitProducts), ("loop.example/golayoctads/impl.bareColumns", Rows.laid_loop_example_golayoctads_impl_bareColumns)]
/-! ### STEP 1: THE WALK: the Go text returns true, AND WRITES NOTHING THAT WAS THERE: 'Below w.heap.size w w'' (Derived/Below.lean: '.refl', '.alloc', '.drew', '.setCell' at a new block, '.trans'). Open each 'IsRow' by 'rcases' AHEAD of 'go_enter'; part every test ahead of the walk. -/
theorem walk (a0 : Int) (a1 : Int) (a2 : Int) (w : World) (w0 : (Lit.int .i64 a0).wf = true) (w1 : (Lit.int .i64 a1).wf = true) (w2 : (Lit.int .i64 a2).wf = true) (hT : Tab2 w) :
    Calls Tryd.prog 5 #[.int .i64 a0, .int .i64 a1, .int .i64 a2] w fun e w' => e = .returned (.bool true) ∧ Below w.heap.size w w' :=
  walk_FnExactPlaneOvals a0 a1 a2 w w0 w1 w2 hT

/-- The tables' cells, off the row's premise. -/
theorem tab_of_laid {W : World} (h : laidMetH Tryd.prog laidL W) : Tab2 W := by
  rw [MakeChecks.laidMetH_plain _ _ _ (by kernel_rfl)] at h
  obtain ⟨ps, h0, _, _⟩ := h
  obtain ⟨g0, t0, cs0, fuel0, p0, q0, hg0, ht0, hv0, hd0, h1, _⟩ := h0
  obtain ⟨g1, t1, cs1, fuel1, p1, q1, hg1, ht1, hv1, hd1, h2, _⟩ := h1
  have T0 : TabP W := by
    intro r hr
    obtain rfl := Option.some.inj ((show Tryd.prog.globalNamed "loop.example/golayoctads/impl.digitProducts" = some 2 by kernel_rfl).symm.trans hg0)
    obtain rfl := Option.some.inj ((show (Tryd.prog.globals[2]?).map (·.type) = some 122 by kernel_rfl).symm.trans ht0)
    have key := tab_nested Tryd.underlying122 Tryd.underlying121 Tryd.underlying99 (by kernel_rfl) (by kernel_rfl) hd0 prodRows (by kernel_rfl) (r / 4) (r % 4) (by omega) (by omega)
    have hrZ : r / 4 * 4 + r % 4 = r := by omega
    rw [hrZ] at key
    have hvZ : (prodRows.getD (r / 4) []).getD (r % 4) 0 = prodT.getD r 0 := by
      have : ∀ q : Fin 16, (prodRows.getD (q.val / 4) []).getD (q.val % 4) 0 = prodT.getD q.val 0 := by decide
      exact this ⟨r, hr⟩
    rw [hvZ] at key
    rw [World.var?_cell hg0 hv0 r]
    simpa using key
  have T1 : TabC W := by
    intro r hr
    obtain rfl := Option.some.inj ((show Tryd.prog.globalNamed "loop.example/golayoctads/impl.bareColumns" = some 1 by kernel_rfl).symm.trans hg1)
    obtain rfl := Option.some.inj ((show (Tryd.prog.globals[1]?).map (·.type) = some 104 by kernel_rfl).symm.trans ht1)
    have key := tab_nested Tryd.underlying104 Tryd.underlying103 Tryd.underlying34 (by kernel_rfl) (by kernel_rfl) hd1 bareRows (by kernel_rfl) (r / 4) (r % 4) (by omega) (by omega)
    have hrZ : r / 4 * 4 + r % 4 = r := by omega
    rw [hrZ] at key
    have hvZ : (bareRows.getD (r / 4) []).getD (r % 4) 0 = bareT.getD r 0 := by
      have : ∀ q : Fin 8, (bareRows.getD (q.val / 4) []).getD (q.val % 4) 0 = bareT.getD q.val 0 := by decide
      exact this ⟨r, hr⟩
    rw [hvZ] at key
    rw [World.var?_cell hg1 hv1 r]
    simpa using key
  exact ⟨T0, T1⟩

/-! ### THE ROW's STEP: WRITTEN OUT: LEAVE IT -/
set_option maxRecDepth 100000 in
theorem lifted (os : Os) (started : os.Started) (H : Type) (enc : TypeId × Value → H) :
    ReturnsInHanded {} Tryd.checked os 5 .any (fun w args => (Rows.fnExactPlaneOvalsSpec.pre enc Tryd.prog Tryd.f5 Rows.fnExactPlaneOvalsRow.domain false w args ∧ laidMetH Tryd.prog laidL w) ∧ sizedMet enc Tryd.prog Tryd.f5 (OpenSpec.ofChange Rows.fnExactPlaneOvalsSpec) false w args) (Rows.fnExactPlaneOvalsSpec.post enc Tryd.prog Tryd.f5 false true false false) := by
  refine returnsInHanded_of_change_and (C := Tryd.checked) (X := fun w _ => laidMetH Tryd.prog laidL w) (fun _ _ _ hh h => h.of_heap hh) own started (by kernel_rfl) Tryd.func5
    (ChangeSpec.witness_shaped (enc := enc) (C := Tryd.checked) (os := os) (X := fun w _ => laidMetH Tryd.prog laidL w) false (World.laidAll Tryd.prog os laidL) #[.int .i64 0, .int .i64 0, .int .i64 0] 8 (World.laidAll_os _ _ _)
      (World.shaped_of_ZipB (by kernel_rfl) (by kernel_rfl)) (by kernel_rfl) (by kernel_rfl) (by kernel_rfl)
      (by rw [MakeChecks.laidMetH_plain _ _ _ (by kernel_rfl)]; exact laidMet_laidAll _ (by kernel_rfl) (by kernel_rfl))) ?_
  intro W base args ds gs before hval0 hW hcnd _ hL _
  have hval : ∀ (j : Nat) t v, Tryd.f5.params[j]? = some t → args[j]? = some v → Value.okWide Tryd.prog W .any base t v := hval0
  have hW' := hW
  obtain ⟨p, q, hA0, hV, rfl, hfz, hnd⟩ := hW
  have hA : DataW.TrodAll enc Tryd.prog W 0 (fun _ => true) true Tryd.f5.params.toList args.toList ds p := hA0
  rw [Tryd.params5] at hA hval
  obtain ⟨v0, vs0, d0, ds0, p0, q0, hargs, rfl, rfl, h0, r0⟩ := trodAll_cons hA
  obtain ⟨v1, vs1, d1, ds1, p1, q1, rfl, rfl, rfl, h1, r1⟩ := trodAll_cons r0
  obtain ⟨v2, vs2, d2, ds2, p2, q2, rfl, rfl, rfl, h2, r2⟩ := trodAll_cons r1
  obtain ⟨rfl, rfl, rfl⟩ := trodAll_nil r2
  obtain rfl : args = #[v0, v1, v2] := by cases args; simp_all
  obtain ⟨gV, tV, csV, fV, dV, pV, gV2, tV2, csV2, fV2, dV2, pV2, rfl, _, _, _, _, _, _, _, _, _⟩ := trodVars_two hV
  obtain ⟨a0, rfl, rfl, rfl, w0⟩ := open_int Tryd.underlying3 (hval 0 3 v0 rfl rfl) h0
  obtain ⟨a1, rfl, rfl, rfl, w1⟩ := open_int Tryd.underlying3 (hval 1 3 v1 rfl rfl) h1
  obtain ⟨a2, rfl, rfl, rfl, w2⟩ := open_int Tryd.underlying3 (hval 2 3 v2 rfl rfl) h2
  clear hA0 hval0
  refine (walk a0 a1 a2 W w0 w1 w2 (tab_of_laid hL)).mono fun e W' ⟨he, bel⟩ => ?_
  subst he
  exact ⟨_, rfl, _, _, _, [], _, _, hW', trodAll_mk1 (shut_bool Tryd.underlying4 _), (trodAll_cons_mk (shut_int Tryd.underlying3 w0) (trodAll_cons_mk (shut_int Tryd.underlying3 w1) (trodAll_cons_mk (shut_int Tryd.underlying3 w2) trodAll_mk0))), Below.trodVars laidOut bel (by kernel_rfl) hV, bel.frame _, fun h => by cases h⟩

theorem over : Rows.fnExactPlaneOvalsRow.holds Tryd.pinned (OpenSpec.ofChange Rows.fnExactPlaneOvalsSpec) :=
  OpenClaim.holds_of_wide 5 Tryd.f5 rfl rfl rfl rfl rfl rfl rfl ⟨rfl, rfl, rfl, rfl, rfl⟩ rfl rfl rfl rfl rfl (by kernel_rfl) Tryd.func5 (by kernel_rfl)
    (of_decide_eq_true (by kernel_rfl)) (by unfold Func.isWrapper; first | (rw [if_pos (by decide +kernel)]; kernel_rfl) | (rw [if_neg (by decide +kernel)]; exact ⟨rfl, rfl⟩))
    (fun os started H enc _ => lifted os started H enc)

theorem proved : Rows.FnExactPlaneOvalsCardSaid :=
  Claim7.holds_tied_plain_at .later [] [.data, .data] true (true, "f6bba568130f8fffb7f32adbcd8c338fa3c63c920c004ce6a0119897e6c48595") false over (fun _ h => by cases h) (by kernel_rfl) (fun _ h => by cases h) fnExactPlaneOvals_row_tie rfl ⟨rfl, rfl⟩ (by kernel_rfl) rfl
    (fun f fn hf hfn => by
      obtain rfl : f = 5 := Option.some.inj ((show Tryd.prog.funcNamed "loop.example/golayoctads/laws.FnExactPlaneOvals" = some 5 by kernel_rfl).symm.trans hf) |>.symm
      obtain rfl : fn = Tryd.f5 := (Option.some.inj (Tryd.func5.symm.trans hfn)).symm
      exact ⟨by kernel_rfl, fun j t ht => by
        have hall : (Tryd.f5.params.toList.all fun u => !Tryd.prog.wantsStandIn u) = true := by kernel_rfl
        have hm : t ∈ Tryd.f5.params.toList := by simpa using Array.mem_of_getElem? ht
        exact (show Tryd.prog.wantsStandIn t = false by simpa using List.all_eq_true.1 hall t hm)⟩)
    (by kernel_rfl)
#print axioms proved
end Go.Proofs.YtnfpdonlknkccabDoor.fnExactPlaneOvals
