/- Joined texts: G40 G41. -/
import Derived.Test.YtiodikflmijhkaaGreatDoorRows
import Derived.WalkKit
import Derived.ProofKit
import Derived.OpenShut
import Derived.ShutString
import Derived.ChangeOld
import Derived.Below
import Derived.LaidMore
import Derived.Lay
import Derived.SevenTiedAt
import Derived.Test.YtiodikflmijhkaaGreatDoorTie
import Derived.Test.YtiodikflmijhkaaGreatDoorCards
import Derived.Test.YtiodikflmijhkaaGreatDoorJ05
import Derived.Test.YtiodikflmijhkaaGreatDoorJ07
import Derived.ChangeVars
import Derived.OpenVars
import Derived.Conc.LeavingOf
import Derived.Conc.Holds
import Derived.Test.YtiodikflmijhkaaGreatDoorJ10
import Derived.Test.YtiodikflmijhkaaGreatDoorJ46
import Derived.Test.YtiodikflmijhkaaGreatDoorJ45
import Derived.Test.YtiodikflmijhkaaGreatDoorJ43
import Derived.Test.YtiodikflmijhkaaGreatDoorJ41
import Derived.Test.YtiodikflmijhkaaGreatDoorJ34
import Derived.Test.YtiodikflmijhkaaGreatDoorJ14
import Derived.Test.YtiodikflmijhkaaGreatDoorJ30
import Derived.Test.YtiodikflmijhkaaGreatDoorJ32
section
namespace Go.Proofs.YtiodikflmijhkaaGreatDoor.fnLatticeMove
open Go.ChangeShapes Go.WideShapes Go.ChangeAt Go.RowKit
open Go.Conc Go.ConcN
open Go.ChangeMaps (open_string shut_string)
set_option linter.unusedVariables false

theorem own : ownKnob Tryz.prog.godebug = none := by kernel_rfl
theorem laidOut : laidOutB Tryz.prog = true := by kernel_rfl

/-- One good run from every start, what is laid being so. -/
theorem leaving_and {H : Type} {enc : TypeId × Value → H} {a : Assume} {C : Checked} {os : Os} {f : FuncId} {fn : Func} {s : ChangeSpec} {conds : List PathCond} {apart fresh handsOn again : Bool} {X : World → Array Value → Prop}
    (hX : ∀ (w w' : World) (args : Array Value), w.heap = w'.heap → X w args → X w' args)
    (own : ownKnob C.prog.godebug = none) (started : os.Started) (hfn : C.prog.funcs[f]? = some fn)
    (witness : ∃ (w : World) (tape : Tape) (i : Input), w.os = os ∧ (w.forCall tape i).Shaped C.prog ∧ i.vars = [] ∧ Input.okWide C.prog (w.forCall tape i) .any w.heap.size f i ∧
      ((s.pre enc C.prog fn conds apart (w.forCall tape i).memory i.args ∧ X (w.forCall tape i).memory i.args) ∧ sizedMet enc C.prog fn (OpenSpec.ofChange s) apart (w.forCall tape i).memory i.args) ∧ a.holds C.prog (lone (Frame.enter C.prog f i.args .normal) [] (w.forCall tape i)))
    (runs : ∀ (W : World) (base : Nat) (args : Array Value) (ds gs : List (DataW H)) (before : List MemPlace),
      (∀ (j : Nat) t v, fn.params[j]? = some t → args[j]? = some v → Value.okWide C.prog W .any base t v) →
      DataW.Whole enc C.prog fn.params.toList s.vars apart W args.toList ds gs before → X W args →
      ∃ M last o w' t', runNT C.prog (M + 1) (solo (G (Frame.enter C.prog f args .normal) []) W) #[] = (.ended o w', t') ∧ runN C.prog M (solo (G (Frame.enter C.prog f args .normal) []) W) = .next last ∧
        step C.prog last = .ended o w' ∧ Conc.Good C.prog (fun v W' => s.post enc C.prog fn apart fresh handsOn again W args v W') last o w' t') :
    ReturnsInLeavingWide a C os f .any (fun w args => (s.pre enc C.prog fn conds apart w args ∧ X w args) ∧ sizedMet enc C.prog fn (OpenSpec.ofChange s) apart w args) (s.post enc C.prog fn apart fresh handsOn again) := by
  refine returnsInLeavingWide_of_good own started witness ?_
  intro w tape i _ _ _ hok hpre hholds
  obtain ⟨_, _, _, fn', hfn', _, _, _, _, hval⟩ := hok
  have e : fn' = fn := Option.some.inj (hfn'.symm.trans hfn)
  subst e
  obtain ⟨⟨⟨ds, gs, before, hw, hc⟩, hx⟩, hz⟩ := hpre
  have hw' := DataW.Whole.of_heap (w' := w.forCall tape i) (by rfl) hw
  obtain ⟨M, last, o, w', t', h1, h2, h3, h4⟩ := runs (w.forCall tape i) w.heap.size i.args ds gs before hval hw' (hX _ _ _ (by rfl) hx)
  exact ⟨M, last, o, w', t', h1, h2, h3, h4.mono fun v hp => ChangeSpec.post_blind hp⟩

abbrev laidL : List (String × DataW Unit) := [("math/bits.deBruijn32tab", Rows.laid_math_bits_deBruijn32tab), ("loop.example/golayoctads/impl.digitProducts", Rows.laid_loop_example_golayoctads_impl_digitProducts), ("loop.example/golayoctads/impl.bareColumns", Rows.laid_loop_example_golayoctads_impl_bareColumns)]

/-- The tables: their cells, and ints alone. -/
def Tabs (w : World) : Prop := Tab3 w ∧ ∀ g, gL g = true → IntRow w g

/-- What the run gives. -/
def Runs : Prop := ∀ (a0 : Option Addr) (len0 cap0 : Nat) (z0 : List Int) (W : World), IsRow .u8 W a0 len0 cap0 z0 → Tabs W →
  ∃ M last o w' t', runNT Tryz.prog (M + 1) (solo (G (Frame.enter Tryz.prog 3 #[.slice a0 len0 cap0] .normal) []) W) #[] = (.ended o w', t') ∧ runN Tryz.prog M (solo (G (Frame.enter Tryz.prog 3 #[.slice a0 len0 cap0] .normal) []) W) = .next last ∧
    step Tryz.prog last = .ended o w' ∧ Conc.Good Tryz.prog (fun v W' => v = .bool true ∧ Below W.heap.size W W') last o w' t'

theorem introw_of_tab {W : World} {nm : String} {g N : Nat} {cs : Array Value} (hg : Program.globalNamed Tryz.prog nm = some g) (hv : W.var? Tryz.prog nm = some cs) (hN : cs.toList.length = N) (hc : ∀ r, r < N → ∃ k n, W.cell? ⟨g, r, none⟩ = some (.int k n)) : IntRow W g := by
  have hv' := hv
  unfold World.var? at hv'
  rw [hg] at hv'
  simp only [Option.bind_some] at hv'
  split at hv'
  · next c t f h =>
    cases hv'
    refine ⟨_, _, _, h, fun v hm => ?_⟩
    obtain ⟨i, hi, rfl⟩ := Array.mem_iff_getElem.1 hm
    obtain ⟨k, n, h1⟩ := hc i (by rw [← hN]; simpa using hi)
    rw [World.var?_cell hg hv i] at h1
    rw [Array.getElem?_eq_getElem hi] at h1
    exact ⟨k, n, Option.some.inj h1⟩
  · cases hv'

/-- The tables' cells, off the row's premise. -/
theorem tab_of_laid {W : World} (h : laidMetH Tryz.prog laidL W) : Tabs W := by
  rw [MakeChecks.laidMetH_plain _ _ _ (by kernel_rfl)] at h
  obtain ⟨ps, h0, _, _⟩ := h
  obtain ⟨g0, t0, cs0, fuel0, p0, q0, hg0, ht0, hv0, hd0, h1, _⟩ := h0
  obtain ⟨g1, t1, cs1, fuel1, p1, q1, hg1, ht1, hv1, hd1, h2, _⟩ := h1
  obtain ⟨g2, t2, cs2, fuel2, p2, q2, hg2, ht2, hv2, hd2, h3, _⟩ := h2
  have T0 : TabB W := by
    intro r hr
    obtain rfl := Option.some.inj ((show Tryz.prog.globalNamed "math/bits.deBruijn32tab" = some 1 by kernel_rfl).symm.trans hg0)
    obtain rfl := Option.some.inj ((show (Tryz.prog.globals[1]?).map (·.type) = some 149 by kernel_rfl).symm.trans ht0)
    obtain ⟨xs, m, _, ex, _, hl, hel⟩ := DataW.trod_array Tryz.underlying149 hd0
    have c5 : Tryz.prog.cellsOf 5 = 1 := by kernel_rfl
    have hlen : Lib.deBruijn32tab.length = 32 := by kernel_rfl
    have hE := hel r (by omega)
    rw [c5, Nat.mul_one, List.getElem?_eq_getElem (by omega)] at hE
    obtain ⟨z, e1, e2, _⟩ := DataW.trod_int Tryz.underlying5 hE
    have e3 : (xs.map (·.1)) = Lib.deBruijn32tab.map fun (n : Nat) => (DataW.lit (.int .u8 (n : Int)) : DataW Unit) := (DataW.agg.inj (Prod.mk.inj ex).1).symm.trans (by kernel_rfl)
    have e4 : (xs.map (·.1))[r]? = (Lib.deBruijn32tab.map fun (n : Nat) => (DataW.lit (.int .u8 (n : Int)) : DataW Unit))[r]? := by rw [e3]
    rw [List.getElem?_map, List.getElem?_map, List.getElem?_eq_getElem (by omega : r < xs.length), List.getElem?_eq_getElem (by omega : r < Lib.deBruijn32tab.length), e2] at e4
    have hz : z = ((Lib.deBruijn32tab.getD r 0 : Nat) : Int) := by
      simp only [Option.map_some, Option.some.injEq, DataW.lit.injEq, Lit.int.injEq, true_and] at e4
      rw [e4, List.getD, List.getElem?_eq_getElem (by omega : r < Lib.deBruijn32tab.length)]; rfl
    rw [World.var?_cell hg0 hv0 r, ← hz]
    have : cs0.toList[r]? = some (.int .u8 z) := by
      have h0 : ((cs0.toList.drop r).take 1)[0]? = some (.int .u8 z) := by rw [e1]; rfl
      simpa using h0
    simpa using this
  have T1 : TabP W := by
    intro r hr
    obtain rfl := Option.some.inj ((show Tryz.prog.globalNamed "loop.example/golayoctads/impl.digitProducts" = some 2 by kernel_rfl).symm.trans hg1)
    obtain rfl := Option.some.inj ((show (Tryz.prog.globals[2]?).map (·.type) = some 156 by kernel_rfl).symm.trans ht1)
    have key := tab_nested Tryz.underlying156 Tryz.underlying155 Tryz.underlying118 (by kernel_rfl) (by kernel_rfl) hd1 prodRows (by kernel_rfl) (r / 4) (r % 4) (by omega) (by omega)
    have hrZ : r / 4 * 4 + r % 4 = r := by omega
    rw [hrZ] at key
    have hvZ : (prodRows.getD (r / 4) []).getD (r % 4) 0 = prodT.getD r 0 := by
      have : ∀ q : Fin 16, (prodRows.getD (q.val / 4) []).getD (q.val % 4) 0 = prodT.getD q.val 0 := by decide
      exact this ⟨r, hr⟩
    rw [hvZ] at key
    rw [World.var?_cell hg1 hv1 r]
    simpa using key
  have T2 : TabC W := by
    intro r hr
    obtain rfl := Option.some.inj ((show Tryz.prog.globalNamed "loop.example/golayoctads/impl.bareColumns" = some 0 by kernel_rfl).symm.trans hg2)
    obtain rfl := Option.some.inj ((show (Tryz.prog.globals[0]?).map (·.type) = some 122 by kernel_rfl).symm.trans ht2)
    have key := tab_nested Tryz.underlying122 Tryz.underlying85 Tryz.underlying58 (by kernel_rfl) (by kernel_rfl) hd2 bareRows (by kernel_rfl) (r / 4) (r % 4) (by omega) (by omega)
    have hrZ : r / 4 * 4 + r % 4 = r := by omega
    rw [hrZ] at key
    have hvZ : (bareRows.getD (r / 4) []).getD (r % 4) 0 = bareT.getD r 0 := by
      have : ∀ q : Fin 8, (bareRows.getD (q.val / 4) []).getD (q.val % 4) 0 = bareT.getD q.val 0 := by decide
      exact this ⟨r, hr⟩
    rw [hvZ] at key
    rw [World.var?_cell hg2 hv2 r]
    simpa using key
  obtain rfl := Option.some.inj ((show Program.globalNamed Tryz.prog "math/bits.deBruijn32tab" = some 1 by kernel_rfl).symm.trans hg0)
  obtain rfl := Option.some.inj ((show (Tryz.prog.globals[1]?).map (·.type) = some 149 by kernel_rfl).symm.trans ht0)
  obtain rfl := Option.some.inj ((show Program.globalNamed Tryz.prog "loop.example/golayoctads/impl.digitProducts" = some 2 by kernel_rfl).symm.trans hg1)
  obtain rfl := Option.some.inj ((show (Tryz.prog.globals[2]?).map (·.type) = some 156 by kernel_rfl).symm.trans ht1)
  obtain rfl := Option.some.inj ((show Program.globalNamed Tryz.prog "loop.example/golayoctads/impl.bareColumns" = some 0 by kernel_rfl).symm.trans hg2)
  obtain rfl := Option.some.inj ((show (Tryz.prog.globals[0]?).map (·.type) = some 122 by kernel_rfl).symm.trans ht2)
  have I1 : IntRow W 1 := by
    obtain ⟨xs, m, _, ex, hl, _, _⟩ := DataW.trod_array Tryz.underlying149 hd0
    exact introw_of_tab hg0 hv0 (N := 32) (hl.trans (by kernel_rfl)) fun r hr => ⟨_, _, T0 r (by rw [show Lib.deBruijn32tab.length = 32 by kernel_rfl]; exact hr)⟩
  have I2 : IntRow W 2 := by
    obtain ⟨xs, m, _, ex, hl, _, _⟩ := DataW.trod_array Tryz.underlying156 hd1
    exact introw_of_tab hg1 hv1 (N := 16) (hl.trans (by kernel_rfl)) fun r hr => ⟨_, _, T1 r hr⟩
  have I0 : IntRow W 0 := by
    obtain ⟨xs, m, _, ex, hl, _, _⟩ := DataW.trod_array Tryz.underlying122 hd2
    exact introw_of_tab hg2 hv2 (N := 8) (hl.trans (by kernel_rfl)) fun r hr => ⟨_, _, T2 r hr⟩
  refine ⟨⟨T0, T1, T2⟩, fun g hg => ?_⟩
  simp only [gL, Bool.or_eq_true, beq_iff_eq] at hg
  rcases hg with (rfl | rfl) | rfl
  · exact I0
  · exact I2
  · exact I1

/-! ### THE ROW's STEP: WRITTEN OUT: LEAVE IT -/
set_option maxRecDepth 100000 in
theorem lifted (run : Runs) (os : Os) (started : os.Started) (H : Type) (enc : TypeId × Value → H) :
    ReturnsInLeavingWide {} Tryz.checked os 3 .any (fun w args => (Rows.fnLatticeMoveSpec.pre enc Tryz.prog Tryz.f3 Rows.fnLatticeMoveRow.domain false w args ∧ laidMetH Tryz.prog laidL w) ∧ sizedMet enc Tryz.prog Tryz.f3 (OpenSpec.ofChange Rows.fnLatticeMoveSpec) false w args) (Rows.fnLatticeMoveSpec.post enc Tryz.prog Tryz.f3 false true false false) := by
  refine leaving_and (C := Tryz.checked) (X := fun w _ => laidMetH Tryz.prog laidL w) (fun _ _ _ hh h => h.of_heap hh) own started Tryz.func3
    (ChangeSpec.witness_shaped (enc := enc) (C := Tryz.checked) (os := os) (X := fun w _ => laidMetH Tryz.prog laidL w) false (World.laidAll Tryz.prog os laidL) #[.slice none 0 0] 8 (World.laidAll_os _ _ _)
      (World.shaped_of_ZipB (by kernel_rfl) (by kernel_rfl)) (by kernel_rfl) (by kernel_rfl) (by kernel_rfl)
      (by rw [MakeChecks.laidMetH_plain _ _ _ (by kernel_rfl)]; exact laidMet_laidAll _ (by kernel_rfl) (by kernel_rfl))) ?_
  intro W base args ds gs before hval0 hW hL
  have hval : ∀ (j : Nat) t v, Tryz.f3.params[j]? = some t → args[j]? = some v → Value.okWide Tryz.prog W .any base t v := hval0
  have hW' := hW
  obtain ⟨p, q, hA0, hV, rfl, hfz, hnd⟩ := hW
  have hA : DataW.TrodAll enc Tryz.prog W 0 (fun _ => true) true Tryz.f3.params.toList args.toList ds p := hA0
  rw [Tryz.params3] at hA hval
  obtain ⟨v0, vs0, d0, ds0, p0, q0, hargs, rfl, rfl, h0, r0⟩ := trodAll_cons hA
  obtain ⟨rfl, rfl, rfl⟩ := trodAll_nil r0
  obtain rfl : args = #[v0] := by cases args; simp_all
  obtain ⟨gV, tV, csV, fV, dV, pV, gV2, tV2, csV2, fV2, dV2, pV2, rfl, _, _, _, _, _, _, _, _, _⟩ := trodVars_two hV
  obtain ⟨a0, len0, cap0, rfl⟩ := okWide_slice Tryz.underlying22 (hval 0 22 v0 rfl rfl)
  have k0 := h0
  have lt0 : ∀ x ∈ p0, x.block < W.heap.size := by obtain ⟨m, hm⟩ := k0; exact DataW.trod_lt m _ _ _ hm
  obtain ⟨z0, w0⟩ : ∃ zs, IsRow .u8 W a0 len0 cap0 zs := by
    obtain ⟨fuel, hf⟩ := h0
    rcases open_ints Tryz.underlying22 Tryz.underlying5 (by kernel_rfl) hf with ⟨hcs, _⟩ | ⟨x, l, c, zs, hcs, _, hl, hm, hz, _, hcell, hwz⟩
    · simp [Value.cells] at hcs
      obtain ⟨rfl, rfl, rfl⟩ := hcs
      exact ⟨[], .inl ⟨rfl, rfl, rfl, rfl⟩⟩
    · simp [Value.cells] at hcs
      obtain ⟨rfl, rfl, rfl⟩ := hcs
      exact ⟨zs, .inr ⟨_, rfl, hl, hm, by simpa using hz, hcell, hwz⟩⟩
  clear hA0 hval0
  obtain ⟨M, last, o, w', t', e1, e2, e3, e4⟩ := run a0 len0 cap0 z0 W w0 (tab_of_laid hL)
  refine ⟨M, last, o, w', t', e1, e2, e3, e4.mono fun v ⟨he, bel⟩ => ?_⟩
  subst he
  exact ⟨_, _, _, [], _, _, hW', trodAll_mk1 (shut_bool Tryz.underlying4 _), (trodAll_cons_mk (Below.trod laidOut (by kernel_rfl) (of_decide_eq_true (by kernel_rfl)) k0 bel lt0) trodAll_mk0), Below.trodVars laidOut bel (by kernel_rfl) hV, bel.frame _, fun h => by cases h⟩

theorem over (run : Runs) : Rows.fnLatticeMoveRow.holds Tryz.pinned (OpenSpec.ofChange Rows.fnLatticeMoveSpec) :=
  OpenClaim.holds_of_wide_leaving 3 Tryz.f3 rfl rfl rfl rfl rfl rfl rfl ⟨rfl, rfl, rfl, rfl, rfl⟩ rfl rfl rfl rfl rfl (by kernel_rfl) Tryz.func3 (by kernel_rfl)
    (of_decide_eq_true (by kernel_rfl)) (by unfold Func.isWrapper; first | (rw [if_pos (by decide +kernel)]; kernel_rfl) | (rw [if_neg (by decide +kernel)]; exact ⟨rfl, rfl⟩))
    (fun os started H enc _ => lifted run os started H enc)

theorem proved_of (run : Runs) : Rows.FnLatticeMoveCardSaid :=
  tied_goes .later [.data, .data, .data] true (true, "335537fceb0e90836ff0b8c31445e2ea605051656af8468858ec4837d1004195") false (over run) (by kernel_rfl) fnLatticeMove_row_tie rfl ⟨rfl, rfl⟩ (by kernel_rfl) rfl
    (fun f fn hf hfn => by
      obtain rfl : f = 3 := Option.some.inj ((show Program.funcNamed Tryz.prog "loop.example/golayoctads/laws.FnLatticeMove" = some 3 by kernel_rfl).symm.trans hf) |>.symm
      obtain rfl : fn = Tryz.f3 := (Option.some.inj (Tryz.func3.symm.trans hfn)).symm
      exact ⟨by kernel_rfl, fun j t ht => by
        have hall : (Tryz.f3.params.toList.all fun u => !Program.wantsStandIn Tryz.prog u) = true := by kernel_rfl
        have hm : t ∈ Tryz.f3.params.toList := by simpa using Array.mem_of_getElem? ht
        exact (show Program.wantsStandIn Tryz.prog t = false by simpa using List.all_eq_true.1 hall t hm)⟩)
    (by kernel_rfl)
end Go.Proofs.YtiodikflmijhkaaGreatDoor.fnLatticeMove
end

section
set_option linter.unusedSectionVars false
set_option linter.unusedVariables false
set_option linter.unusedSimpArgs false
namespace Go.Proofs.YtiodikflmijhkaaGreatDoor
open Go Go.Conc Go.ConcN Go.RowKit Farm Vow
open Go.ConcR (KK wgBlock WgAt stA smA rd wr mk Payload Aside2 DC0)
attribute [local irreducible] cN syn vecB permB lmL

/-- Where the law stands. -/
structure LQ (st : MSt) (D : Nat → Prop) (W w : World) : Prop where
  hP : PH st D w
  hw : HeapOk (scL D) w
  hb : Below W.heap.size W w
  tb : ∀ g, gL g = true → IntRow w g
  t3 : Tab3 w
section
variable {st : MSt} {D : Nat → Prop} {W w w2 : World}
theorem LQ.at (h : LQ st D W w) (d : Nat) : LQ st D W (w.at d) := ⟨h.hP.more (Nat.le_refl _), heapOk_at h.hw, below_at h.hb, h.tb, h.t3⟩
theorem LQ.next (h : LQ st D W w) (hw2 : HeapOk (scL D) w2) (hb2 : Below w.heap.size w w2) : LQ st D W w2 :=
  ⟨h.hP.more hb2.size, hw2, h.hb.trans (hb2.mono h.hb.size), fun g hg => (h.tb g hg).below hb2 (h.tb g hg).lt, h.t3.below hb2 h.t3.lt⟩
theorem LQ.nD (h : LQ st D W w) {g : Nat} (hg : w.heap.size ≤ g) : ¬ D g := fun hd => by have h1 : g < w.heap.size := h.hw.low g hd; omega
end

/-- A list that may be read. -/
def Lw (D : Nat → Prop) (w : World) (v : Value) (L : List Int) : Prop := ∃ A c, v = .slice A L.length c ∧ Rds w w.heap.size .i64 A L ∧ ∀ x, A = some x → ¬ D x.block ∧ x.block < w.heap.size
/-- A list that may be read, in a block of ints alone. -/
def Lq (D : Nat → Prop) (w : World) (v : Value) (L : List Int) : Prop := ∃ A c, v = .slice A L.length c ∧ Rds w w.heap.size .i64 A L ∧ ∀ x, A = some x → ¬ D x.block ∧ IntRow w x.block
section
variable {D D1 : Nat → Prop} {w w2 : World} {v : Value} {L : List Int}
theorem Lq.weak (h : Lq D w v L) : Lw D w v L := by
  obtain ⟨A, c, h1, h2, h3⟩ := h
  exact ⟨A, c, h1, h2, fun x hx => ⟨(h3 x hx).1, (h3 x hx).2.lt⟩⟩
theorem Lw.ok (h : Lw D w v L) : Ok (scL D) v := by
  obtain ⟨A, c, rfl, _, h3⟩ := h
  exact .slice _ _ _ fun x hx => (h3 x hx).1
theorem Lw.below (h : Lw D w v L) (hb : Below w.heap.size w w2) : Lw D w2 v L := by
  obtain ⟨A, c, h1, h2, h3⟩ := h
  exact ⟨A, c, h1, (h2.below hb).more hb.size, fun x hx => ⟨(h3 x hx).1, Nat.lt_of_lt_of_le (h3 x hx).2 hb.size⟩⟩
theorem Lq.below (h : Lq D w v L) (hb : Below w.heap.size w w2) : Lq D w2 v L := by
  obtain ⟨A, c, h1, h2, h3⟩ := h
  exact ⟨A, c, h1, (h2.below hb).more hb.size, fun x hx => ⟨(h3 x hx).1, (h3 x hx).2.below hb (h3 x hx).2.lt⟩⟩
theorem Lq.reD (h : Lq D w v L) (hb : Below w.heap.size w w2) (hD : ∀ g, ¬ D g → IntRow w g → ¬ D1 g) : Lq D1 w2 v L := by
  obtain ⟨A, c, h1, h2, h3⟩ := h
  exact ⟨A, c, h1, (h2.below hb).more hb.size, fun x hx => ⟨hD _ (h3 x hx).1 (h3 x hx).2, (h3 x hx).2.below hb (h3 x hx).2.lt⟩⟩
theorem Lq.of_ownI {B : Nat} (h : OwnI w B v L) (hD : ∀ g, B ≤ g → IntRow w g → ¬ D g) : Lq D w v L := by
  rcases h.form with ⟨rfl, rfl⟩ | ⟨g, cap, rfl, h1, h2, _⟩
  · exact ⟨none, 0, rfl, .inl rfl, fun x hx => by cases hx⟩
  · exact ⟨_, _, rfl, h.rds, fun x hx => by cases hx; exact ⟨hD g h1 (h.int g rfl), h.int g rfl⟩⟩
theorem Lw.of_ownV {B : Nat} (h : OwnV w B v L) (hD : ∀ g, B ≤ g → ¬ D g) : Lw D w v L := by
  rcases h.form with ⟨rfl, rfl⟩ | ⟨g, cap, rfl, h1, h2, _⟩
  · exact ⟨none, 0, rfl, .inl rfl, fun x hx => by cases hx⟩
  · exact ⟨_, _, rfl, h.rds, fun x hx => by cases hx; exact ⟨hD g h1, h2⟩⟩
theorem Lq.new {g : Nat} {t : TypeId} (h2 : ¬ D g) (h3 : w.heap[g]? = some (.cells (VL L) t)) : Lq D w (.slice (some ⟨g, 0, none⟩) L.length L.length) L :=
  ⟨_, _, rfl, .inr ⟨g, 0, rfl, lt_of_some' h3, fun j hj => by rw [Nat.zero_add]; exact VL_at L hj h3⟩, fun x hx => by cases hx; exact ⟨h2, IntRow.VL h3⟩⟩
theorem Lq.none (D : Nat → Prop) (w : World) : Lq D w (.slice none 0 0) [] := ⟨Option.none, 0, rfl, .inl rfl, fun x hx => by cases hx⟩
end
theorem nqSM : (Tryz.f6.name == "runtime.NumGoroutine") = false := by kernel_rfl
theorem nqSI : (Tryz.f7.name == "runtime.NumGoroutine") = false := by kernel_rfl
theorem nqPT : (Tryz.f8.name == "runtime.NumGoroutine") = false := by kernel_rfl
theorem nqLS : (Tryz.f9.name == "runtime.NumGoroutine") = false := by kernel_rfl
theorem nqPK : (Tryz.f10.name == "runtime.NumGoroutine") = false := by kernel_rfl
theorem nqLI : (Tryz.f11.name == "runtime.NumGoroutine") = false := by kernel_rfl
theorem nqIM : (Tryz.f5.name == "runtime.NumGoroutine") = false := by kernel_rfl
theorem nqDL : (Tryz.f4.name == "runtime.NumGoroutine") = false := by kernel_rfl

section
variable {st : MSt} {D : Nat → Prop} {W w : World} {Fin : Value → World → Prop} {b : Frame} {a : Act} {k : List Item} {cs : List Frame} {ops : Array Oper} {i : Nat} {rest : List Nat} {o : Oper} {args : Array Operand} {ats : Array TypeId}
/-- A call of a function that makes new blocks alone. -/
theorem call_step {f : FuncId} {fn : Func} {c : Code} {R : (Nat → Question → Nat) → Nat → Ending → World → Prop} (h : LQ st D W w)
    (ho : ops[i]? = some o) (hwt : Region.wanted o (yielded ops a.tmps) = true) (hk : b.kind ≠ .early) (hop : o.op = .call { callee := .value (.func f), args, argTypes := ats })
    (hf : (Tryz.prog).funcs[f]? = some fn) (hname : (fn.name == "runtime.NumGoroutine") = false) (hb : fn.body = some c) (hF : fL f = true)
    {vs : Array Value} (hargs : args.map a.eval = vs) (hvs : ∀ v ∈ vs, Ok (scL D) v)
    (hC : ∀ T d, Calls Tryz.prog f vs (tp w T d) (R T d)) (hR : ∀ T d e w', R T d e w' → (∃ v, e = .returned v) ∧ Below w.heap.size (tp w T d) w')
    (hK : ∀ v w1 T d T' d', R T d (.returned v) (tp w1 T' d') → LQ st D W w1 → Below w.heap.size w w1 → Done Tryz.prog 71 Fin st (G (b.at (a.put o.dst v) (.inRegion ops rest :: k)) cs) w1) :
    Done Tryz.prog 71 Fin st (G (b.at a (.inRegion ops (i :: rest) :: k)) cs) w :=
  done_callC (S := scL D) (R := R) (scopeL h.hP.gb) h.hP.tag h.hP.may ho hwt hk hop hf hname hb hF hargs hvs h.hw hC (fun T d e w' h => (hR T d e w' h).1) fun v w3 T d T' d' hr hw3 htp => by
    have hb2 : Below w.heap.size w w3 := below_tp (hR T d _ _ hr).2 htp
    exact hK v w3 T d T' d' hr (h.next hw3 hb2) hb2

/-- sameInts of two lists that are the same. -/
theorem same_step {v1 v2 : Value} {L : List Int} (h : LQ st D W w) (h1 : Lw D w v1 L) (h2 : Lw D w v2 L) (hl : L.length ≤ 24)
    (ho : ops[i]? = some o) (hwt : Region.wanted o (yielded ops a.tmps) = true) (hk : b.kind ≠ .early) (hop : o.op = .call { callee := .value (.func 7), args, argTypes := ats }) (hargs : args.map a.eval = #[v1, v2])
    (hK : ∀ w2, LQ st D W w2 → Below w.heap.size w w2 → Done Tryz.prog 71 Fin st (G (b.at (a.put o.dst (.bool true)) (.inRegion ops rest :: k)) cs) w2) :
    Done Tryz.prog 71 Fin st (G (b.at a (.inRegion ops (i :: rest) :: k)) cs) w := by
  have ok := two_ok h1.ok h2.ok
  obtain ⟨A, c1, rfl, r1, _⟩ := h1
  obtain ⟨B, c2, rfl, r2, _⟩ := h2
  refine call_step (R := fun T d e w' => e = .returned (.bool (eqL L L)) ∧ ∃ k, w' = (tp w T d).drewN k) h ho hwt hk hop Tryz.func7 nqSI rfl (show fL 7 = true by kernel_rfl) hargs ok (fun T d => sameInts_calls A B _ _ L L (tp w T d) r1 r2 (by unfold maxLen; omega) (by unfold maxLen; omega)) (fun T d e w' h => ⟨⟨_, h.1⟩, ?_⟩) fun v w3 T d T' d' hr hw3 hb => ?_
  · obtain ⟨_, k, rfl⟩ := h
    exact ⟨rfl, rfl, rfl, Nat.le_refl _, fun _ _ => rfl⟩
  · obtain ⟨he, q, hq⟩ := hr
    rw [eqL_refl] at he
    cases he
    exact hK w3 hw3 hb
/-- The model's LatticeMove. -/
theorem modelQ_step {v1 v2 : Value} {xs ys L : List Int} {bb : Bool} (hLM : lvMove xs ys = (L, bb)) (h : LQ st D W w) (h1 : Lq D w v1 xs) (h2 : Lq D w v2 ys) (hx : xs.length ≤ 24) (hy : ys.length ≤ 24)
    (ho : ops[i]? = some o) (hwt : Region.wanted o (yielded ops a.tmps) = true) (hk : b.kind ≠ .early) (hop : o.op = .call { callee := .value (.func 6), args, argTypes := ats }) (hargs : args.map a.eval = #[v1, v2])
    (hK : ∀ w2 v, LQ st D W w2 → Below w.heap.size w w2 → Lw D w2 v L → Done Tryz.prog 71 Fin st (G (b.at (a.put o.dst (.tuple #[v, .bool bb])) (.inRegion ops rest :: k)) cs) w2) :
    Done Tryz.prog 71 Fin st (G (b.at a (.inRegion ops (i :: rest) :: k)) cs) w := by
  obtain ⟨rfl, rfl⟩ : L = (lvMove xs ys).1 ∧ bb = (lvMove xs ys).2 := by rw [hLM]; exact ⟨rfl, rfl⟩
  have ok := two_ok h1.weak.ok h2.weak.ok
  obtain ⟨A, c1, rfl, r1, _⟩ := h1
  obtain ⟨B, c2, rfl, r2, _⟩ := h2
  refine call_step (R := fun T d e w' => GotX (tp w T d) (lvMove xs ys).1 (lvMove xs ys).2 e w') h ho hwt hk hop Tryz.func6 nqSM rfl (show fL 6 = true by kernel_rfl) hargs ok (fun T d => sLatticeMove_calls A B _ _ xs ys (tp w T d) r1 (by unfold maxLen; omega) r2 (by unfold maxLen; omega)) (fun T d e w' h => let ⟨v, h1, _, _, h4⟩ := h; ⟨⟨_, h1⟩, h4⟩) fun v w3 T d T' d' hr hw3 hb => ?_
  obtain ⟨g, he, hg, hc, hb0⟩ := hr
  cases he
  exact hK w3 _ hw3 hb (Lq.new (h.nD hg) hc).weak
/-- A permutation turned. -/
theorem turned_step {v1 : Value} {ys T : List Int} (hT : plTurned ys = (T, true)) (h : LQ st D W w) (h1 : Lq D w v1 ys) (hy : ys.length ≤ 24)
    (ho : ops[i]? = some o) (hwt : Region.wanted o (yielded ops a.tmps) = true) (hk : b.kind ≠ .early) (hop : o.op = .call { callee := .value (.func 8), args, argTypes := ats }) (hargs : args.map a.eval = #[v1])
    (hK : ∀ w2 v, LQ st D W w2 → Below w.heap.size w w2 → Lq D w2 v T → Done Tryz.prog 71 Fin st (G (b.at (a.put o.dst (.tuple #[v, .bool true])) (.inRegion ops rest :: k)) cs) w2) :
    Done Tryz.prog 71 Fin st (G (b.at a (.inRegion ops (i :: rest) :: k)) cs) w := by
  have ok := one_ok h1.weak.ok
  obtain ⟨A, c1, rfl, r1, _⟩ := h1
  refine call_step (R := fun T d e w' => GotLI (tp w T d) (plTurned ys).1 (plTurned ys).2 e w') h ho hwt hk hop Tryz.func8 nqPT rfl (show fL 8 = true by kernel_rfl) hargs ok (fun T d => iPermTurned_callsI A _ ys (tp w T d) r1 (by unfold maxLen; omega)) (fun T d e w' h => let ⟨v, h1, _, h4⟩ := h; ⟨⟨_, h1⟩, h4⟩) fun v w3 T d T' d' hr hw3 hb => ?_
  rw [hT] at hr
  obtain ⟨v, he, hO, hb0⟩ := hr
  cases he
  exact hK w3 _ hw3 hb (Lq.of_ownI (w := w3) hO fun g hg _ => h.nD hg)
/-- The shape of a vector. -/
theorem shape_step {v1 : Value} {xs T : List Int} (hT : lvShape xs = (T, true)) (h : LQ st D W w) (h1 : Lw D w v1 xs) (hx : xs.length ≤ 24)
    (ho : ops[i]? = some o) (hwt : Region.wanted o (yielded ops a.tmps) = true) (hk : b.kind ≠ .early) (hop : o.op = .call { callee := .value (.func 9), args, argTypes := ats }) (hargs : args.map a.eval = #[v1])
    (hK : ∀ w2 v, LQ st D W w2 → Below w.heap.size w w2 → Lw D w2 v T → Done Tryz.prog 71 Fin st (G (b.at (a.put o.dst (.tuple #[v, .bool true])) (.inRegion ops rest :: k)) cs) w2) :
    Done Tryz.prog 71 Fin st (G (b.at a (.inRegion ops (i :: rest) :: k)) cs) w := by
  have ok := one_ok h1.ok
  obtain ⟨A, c1, rfl, r1, _⟩ := h1
  refine call_step (R := fun T d e w' => GotV (tp w T d) (lvShape xs).1 (lvShape xs).2 e w') h ho hwt hk hop Tryz.func9 nqLS rfl (show fL 9 = true by kernel_rfl) hargs ok (fun T d => iLatticeShape_calls A _ xs (tp w T d) r1 (by unfold maxLen; omega)) (fun T d e w' h => let ⟨v, h1, _, h4⟩ := h; ⟨⟨_, h1⟩, h4⟩) fun v w3 T d T' d' hr hw3 hb => ?_
  rw [hT] at hr
  obtain ⟨v, he, hO, hb0⟩ := hr
  cases he
  exact hK w3 _ hw3 hb (Lw.of_ownV (w := w3) hO fun g hg => h.nD hg)
/-- Whether a permutation keeps the octads. -/
theorem keeps_step {v1 : Value} {ys : List Int} (h : LQ st D W w) (h1 : Lq D w v1 ys) (hy : ys.length ≤ 24)
    (ho : ops[i]? = some o) (hwt : Region.wanted o (yielded ops a.tmps) = true) (hk : b.kind ≠ .early) (hop : o.op = .call { callee := .value (.func 10), args, argTypes := ats }) (hargs : args.map a.eval = #[v1])
    (hK : ∀ w2, LQ st D W w2 → Below w.heap.size w w2 → Done Tryz.prog 71 Fin st (G (b.at (a.put o.dst (.bool (keepsB ys))) (.inRegion ops rest :: k)) cs) w2) :
    Done Tryz.prog 71 Fin st (G (b.at a (.inRegion ops (i :: rest) :: k)) cs) w := by
  have ok := one_ok h1.weak.ok
  obtain ⟨A, c1, rfl, r1, _⟩ := h1
  refine call_step (R := fun T d e w' => e = .returned (.bool (keepsB ys)) ∧ Below w.heap.size (tp w T d) w') h ho hwt hk hop Tryz.func10 nqPK rfl (show fL 10 = true by kernel_rfl) hargs ok (fun T d => iPermKeeps_calls A _ ys (tp w T d) r1 (by unfold maxLen; omega) h.t3) (fun T d e w' h => ⟨⟨_, h.1⟩, h.2⟩) fun v w3 T d T' d' hr hw3 hb => ?_
  cases hr.1
  exact hK w3 hw3 hb
/-- Whether a vector is in the lattice. -/
theorem latin_step {v1 : Value} {xs : List Int} (h : LQ st D W w) (h1 : Lw D w v1 xs) (hx : xs.length ≤ 24)
    (ho : ops[i]? = some o) (hwt : Region.wanted o (yielded ops a.tmps) = true) (hk : b.kind ≠ .early) (hop : o.op = .call { callee := .value (.func 11), args, argTypes := ats }) (hargs : args.map a.eval = #[v1])
    (hK : ∀ w2, LQ st D W w2 → Below w.heap.size w w2 → Done Tryz.prog 71 Fin st (G (b.at (a.put o.dst (.bool (latB xs))) (.inRegion ops rest :: k)) cs) w2) :
    Done Tryz.prog 71 Fin st (G (b.at a (.inRegion ops (i :: rest) :: k)) cs) w := by
  have ok := one_ok h1.ok
  obtain ⟨A, c1, rfl, r1, _⟩ := h1
  refine call_step (R := fun T d e w' => e = .returned (.bool (latB xs)) ∧ Below w.heap.size (tp w T d) w') h ho hwt hk hop Tryz.func11 nqLI rfl (show fL 11 = true by kernel_rfl) hargs ok (fun T d => iLatticeIn_calls A _ xs (tp w T d) r1 (by unfold maxLen; omega) h.t3) (fun T d e w' h => ⟨⟨_, h.1⟩, h.2⟩) fun v w3 T d T' d' hr hw3 hb => ?_
  cases hr.1
  exact hK w3 hw3 hb
/-- The program's LatticeMove. -/
theorem bodyL_eq : Tryz.f5.body = some bodyL := by
  unfold bodyL Tryz.f5
  rfl
theorem implQ_step {v1 v2 : Value} {xs ys L : List Int} {bb : Bool} (hLM : lvMove xs ys = (L, bb)) (h : LQ st D W w) (h1 : Lq D w v1 xs) (h2 : Lq D w v2 ys) (hx : xs.length ≤ 24) (hy : ys.length ≤ 24) (hgs : st.gs + 4 < 1000)
    (ho : ops[i]? = some o) (hwt : Region.wanted o (yielded ops a.tmps) = true) (hk : b.kind ≠ .early) (hop : o.op = .call { callee := .value (.func 5), args, argTypes := ats }) (hargs : args.map a.eval = #[v1, v2])
    (hK : ∀ st1 D1 w2 v, LQ st1 D1 W w2 → Below w.heap.size w w2 → (∀ g, ¬ D g → IntRow w g → ¬ D1 g) → st1.gs ≤ st.gs + 4 → Lq D1 w2 v L →
      Done Tryz.prog 71 Fin st1 (G (b.at (a.put o.dst (.tuple #[v, .bool bb])) (.inRegion ops rest :: k)) cs) w2) :
    Done Tryz.prog 71 Fin st (G (b.at a (.inRegion ops (i :: rest) :: k)) cs) w := by
  obtain ⟨rfl, rfl⟩ : L = (lvMove xs ys).1 ∧ bb = (lvMove xs ys).2 := by rw [hLM]; exact ⟨rfl, rfl⟩
  obtain ⟨A, c1, rfl, r1, k1⟩ := h1
  obtain ⟨B, c2, rfl, r2, k2⟩ := h2
  have hfin : ∀ u, (b.at a (.inRegion ops (i :: rest) :: k)).finish u = b.at (a.put o.dst u) (.inRegion ops rest :: k) := fun u => by rw [Frame.finish_at, ho]; rfl
  have hT := @latticeMove_done st D Fin w A B c1 c2 xs ys (b.at a (.inRegion ops (i :: rest) :: k)) cs h.hP h.hw r1 (by unfold maxLen; omega) r2 (by unfold maxLen; omega) (fun g => ¬ D g ∧ IntRow w g) (fun g hg => hg) (fun g hg => ⟨h.hP.gb g hg, h.tb g hg⟩) k1 k2 hgs
    (fun hno w1 hb hw1 => by
      rw [hfin]
      have e : lvMove xs ys = ([], false) := by simp only [lvMove, hno, Bool.false_eq_true, if_false]
      rw [e] at hK
      exact hK st D w1 _ (h.next hw1 hb) hb (fun b hb _ => hb) (by omega) (Lq.none D w1))
    (fun hyes st1 D1 w1 g hP1 hw1 hk1 hg1 hgr1 hb hg hc hD => by
      rw [hfin]
      have e : lvMove xs ys = (lmL xs ys 24, true) := by simp only [lvMove, hyes, if_true]
      rw [e] at hK
      have hl := Lq.new (D := D1) hD hc
      rw [lmL_len] at hl
      exact hK st1 D1 w1 _ ⟨hP1, hw1, h.hb.trans (hb.mono h.hb.size), fun g hg => (h.tb g hg).below hb (h.tb g hg).lt, h.t3.below hb h.t3.lt⟩ hb (fun g h1 h2 => hk1 g ⟨h1, h2⟩) (by omega) hl)
  have hE : G (Frame.enter Tryz.prog 5 (args.map a.eval) .normal) (b.at a (.inRegion ops (i :: rest) :: k) :: cs) = G (b6.at ⟨#[.slice A xs.length c1, .slice B ys.length c2, undef, undef, undef, undef, undef, undef, undef, undef, undef, undef, undef, undef, undef, undef, undef, undef, undef, undef, undef, undef, undef, undef, undef, undef, undef], []⟩ [.code bodyL]) (b.at a (.inRegion ops (i :: rest) :: k) :: cs) := by
    rw [hargs, enter_at _ Tryz.func5 bodyL_eq]
    simp only [Tryz.ntmps5]
    walk_nrm
  refine done_step (f := fun _ => G (Frame.enter Tryz.prog 5 (args.map a.eval) .normal) (b.at a (.inRegion ops (i :: rest) :: k) :: cs)) (v := fun d => w.at d) (es := fun _ => #[]) h.hP.tag rfl (fun d => ?_) (fun d => dm0) fun d => ?_
  · rw [stepG_enter ho hwt hk (run_call_body hop Tryz.func5 nqIM rfl)]
    have : listed Tryz.prog b.fn a o (w.at d) = #[] := by unfold listed; rw [events_call_body hop Tryz.func5 nqIM rfl]; exact seen_none _ _
    rw [this]
  · show Done _ _ _ _ (G _ _) w
    rw [hE]
    exact hT
end

end Go.Proofs.YtiodikflmijhkaaGreatDoor
end
