/- Joined texts: G2 G3. -/
import Derived.Test.YtiodikflmijhkaaGreatDoorJ21
import Derived.Test.YtiodikflmijhkaaGreatDoorChecked
section
set_option linter.unusedSectionVars false
set_option linter.unusedVariables false
namespace Go.Proofs.YtiodikflmijhkaaGreatDoor.Farm
open Go.Conc Go.ConcN Go.RowKit Go.Conc.Lib Go.ConcR.Gen Go.ConcN.Gen
open Go.ConcR (KK wgBlock WgAt stA smA rd wr mk Payload Aside2 DC0)
variable [Payload] {L : WgLink}

section
variable {P : Program} {ty : TypeId} {Post : MSt → Goroutine → World → Prop}

theorem MStop.mono {K K' : MSt → Goroutine → World → Prop} (h : ∀ st g w, K st g w → K' st g w) {st : MSt} {g : Goroutine} {w : World} (x : MStop P ty Post K st g w) : MStop P ty Post K' st g w := by
  cases x with
  | newc o g' h1 h2 h3 h4 => exact .newc o g' h1 h2 h3 (h _ _ _ h4)
  | new o g' h1 h2 h3 h4 => exact .new o g' h1 h2 h3 (h _ _ _ h4)
  | wg g' Z may h1 h2 h3 h4 h5 h6 => exact .wg g' Z may h1 h2 h3 h4 h5 (h _ _ _ h6)
  | dis g' h1 h2 h3 h4 => exact .dis g' h1 h2 h3 (h _ _ _ h4)
  | en g' h1 h2 h3 h4 => exact .en g' h1 h2 h3 (h _ _ _ h4)
  | add h1 h2 h3 h4 => exact .add h1 h2 h3 fun v hv hw => let ⟨g', e, k⟩ := h4 v hv hw; ⟨g', e, h _ _ _ k⟩
  | go g' child S c Nw vs may h1 h2 h3 h4 h5 h6 h7 h8 h9 h10 h11 h12 h13 h14 h15 => exact .go g' child S c Nw vs may h1 h2 h3 h4 h5 h6 h7 h8 h9 h10 h11 h12 h13 h14 (h _ _ _ h15)
  | recv c z g₂ h1 h2 h3 h4 => exact .recv c z g₂ h1 h2 h3 ⟨h4.run, h4.fr, h4.cs, h4.dy, h4.step, fun v r e => h _ _ _ (h4.some v r e), fun e => h _ _ _ (h4.none e)⟩
  | w1 h1 h2 h3 => exact .w1 h1 h2 fun v hv hw => let ⟨g', e, k1, k2⟩ := h3 v hv hw; ⟨g', e, fun x => h _ _ _ (k1 x), fun x => h _ _ _ (k2 x)⟩
  | w2 vs h1 h2 h3 => exact .w2 vs h1 h2 fun v hv hw => let ⟨k1, k2⟩ := h3 v hv hw; ⟨fun x => let ⟨g', e, k⟩ := k1 x; ⟨g', e, h _ _ _ k⟩, fun x => let ⟨g', e, k⟩ := k2 x; ⟨g', e, h _ _ _ k⟩⟩
  | w3 h1 h2 h3 => exact .w3 h1 h2 ⟨h3.run, h3.off, h3.wait, fun w₁ r hw => let ⟨g', e, k⟩ := h3.pass w₁ r hw; ⟨g', e, h _ _ _ k⟩⟩
  | w4 h1 h2 h3 => exact .w4 h1 h2 fun hw => let ⟨g', e, k⟩ := h3 hw; ⟨g', e, h _ _ _ k⟩
  | acq g' may zone h1 h2 h3 h4 h5 h6 => exact .acq g' may zone h1 h2 h3 h4 h5 (h _ _ _ h6)
  | cont h1 h2 h3 => exact .cont h1 h2 h3

theorem Sc.succ : ∀ {N : Nat} {st : MSt} {g : Goroutine} {w : World}, Sc P ty Post N st g w → Sc P ty Post (N + 1) st g w
  | 0, _, _, _, h => h.elim
  | N + 1, st, g, w, ⟨m, h⟩ => ⟨m, goes_mono (fun g w x => ⟨x.1, x.2.mono fun st g w k => Sc.succ k⟩) h⟩
theorem Sc.up {N M : Nat} (hle : N ≤ M) {st : MSt} {g : Goroutine} {w : World} (h : Sc P ty Post N st g w) : Sc P ty Post M st g w := by
  induction hle with
  | refl => exact h
  | step _ ih => exact ih.succ
end

section
variable {P : Program} {Post : MSt → Goroutine → World → Prop} {wg gs : Nat} {grp may zone chs : Nat → Prop} {q : Nat → List Value} {F : World → Prop} {N : Nat} {mayF zoneF : Nat → Nat → Prop}
  {b₀ : Frame} {a₀ : Act} {ops₀ : Array Oper} {i₀ : Nat} {rest₀ : List Nat} {k₀ : List Item} {cs : List Frame}

set_option maxRecDepth 100000 in
set_option maxHeartbeats 8000000 in
/-- ████ FROM THE HEAD OF Wait's LOOP. ████ -/
theorem waitRoundF (H : WgLib P L) (hmay : ¬ may wg) (hgrp : grp wg) (hF2 : ∀ w w', RM L.tWg wg (mrOf wg may grp chs) w w' → F w → F w') (hz : ∀ B b, zone b → b < B → zoneF B b) (hm : ∀ w, F w → ∀ b, mayF w.heap.size b → ¬ zoneF w.heap.size b ∧ ¬ grp b)
    (hM : ∃ mT, ∀ bd B w, F w → w.heap.size = B → Goes P true (ROf L.tWg ⟨.law, 0, wg, bd, gs, grp, mayF B, zoneF B, chs, q⟩) (DM ⟨.law, 0, wg, bd, gs, grp, mayF B, zoneF B, chs, q⟩) (fun g w => g.status = .running ∧ MStop P L.tWg Post (Sc P L.tWg Post N) ⟨.law, 0, wg, bd, gs, grp, mayF B, zoneF B, chs, q⟩ g w) mT
      (G (b₀.at (a₀.put ((ops₀[i₀]?).bind (·.dst)) (.tuple #[])) (.inRegion ops₀ rest₀ :: k₀)) cs) w) :
    ∀ (n bd : Nat), bd < n → n ≤ 1001 → ∀ (g : Goroutine) (w : World), AnchWN L F wg (b₀.at a₀ (.inRegion ops₀ (i₀ :: rest₀) :: k₀)) cs g w →
      Goes P true (ROf L.tWg ⟨.opn false, 1, wg, bd, gs, grp, may, zone, chs, q⟩) (DM ⟨.opn false, 1, wg, bd, gs, grp, may, zone, chs, q⟩) (fun g w => g.status = .running ∧ MStop P L.tWg Post (Sc P L.tWg Post (N + 8 + 2 * n)) ⟨.opn false, 1, wg, bd, gs, grp, may, zone, chs, q⟩ g w) 30 g w := by
  lib_facts
  intro n
  induction n with
  | zero => exact fun bd h => absurd h (Nat.not_lt_zero _)
  | succ n ih =>
    rintro bd hbd hn g w ⟨T, rfl, hT84, t0, hF⟩
    obtain ⟨fu, hfu⟩ : ∃ fu, fu = N + 8 + 2 * n := ⟨_, rfl⟩
    rw [show N + 8 + 2 * (n + 1) = fu + 1 + 1 by omega]
    rw [← hfu] at ih
    obtain ⟨v0, v1, v2, v3, v4, v5, v6, v7, v8, v9, v10, v11, v12, v13, v14, v15, v16, v17, v18, v19, v20, v21, v22, v23, v24, v25, v26, v27, v28, v29, v30, v31, v32, v33, v34, v35, v36, v37, v38, v39, v40, v41, v42, v43, v44, v45, v46, v47, v48, v49, v50, v51, v52, v53, v54, v55, v56, v57, v58, v59, v60, v61, v62, v63, v64, v65, v66, v67, v68, v69, v70, v71, v72, v73, v74, v75, v76, v77, v78, v79, v80, v81, v82, v83, rfl⟩ := array84 T hT84
    simp only [List.getElem?_toArray, List.getElem?_cons_zero, Option.some.injEq] at t0
    subst t0
    have fm : ∀ {w w₁ : World}, F w ∧ WgLive L.tWg wg w → ROf L.tWg ⟨.opn false, 1, wg, bd, gs, grp, may, zone, chs, q⟩ w w₁ → F w₁ ∧ WgLive L.tWg wg w₁ := fun h r => fm_of hF2 (by simp) rfl rfl h r
    refine goesD (D := DC0) dm_of_dc0 ?_
    simp only [L7, body_wait, waitFn, Option.getD_some]
    u_c stepG_block fm hF
    u_c stepG_seq fm hF
    u_reg fm hF
    u_op fm hF
    u_op fm hF
    u_op fm hF
    u_call H.f_uLoad (nm_uLoad L) uLoadFn fm hF
    u_c stepG_seq fm hF
    u_reg fm hF
    u_op fm hF
    u_c stepG_region_end fm hF
    u_c stepG_seq fm hF
    u_reg fm hF
    u_op fm hF
    u_op fm hF
    u_op fm hF
    refine Goes.stop (fun w₁ h₁ => ?_)
    replace hF := fm hF h₁
    clear h₁ fm
    refine ⟨rfl, .w1 rfl rfl fun v hv hw => ?_⟩
    replace hv : v ≤ bd := hv
    rcases Nat.eq_zero_or_pos v with rfl | hvp
    · -- THE LOAD READS 0: THE JOIN IS SEEN
      replace hw : WgAt L.tWg wg w₁ 0 0 := by simpa using hw
      refine ⟨_, stepG_load_atomic (v := 0) rfl rfl (by k_ne) rfl H.f_loadU64 (x_loadU64_n L) (x_loadU64_b L) (x_loadU64_x L) .u64 (x_loadU64_f L) rfl hw.cellSt, fun _ => ?_, fun h => absurd rfl h⟩
      clear hw
      have fm : ∀ {w w₁ : World}, F w ∧ WgLive L.tWg wg w → ROf L.tWg ⟨.fin, 1, wg, bd, gs, grp, may, zone, chs, q⟩ w w₁ → F w₁ ∧ WgLive L.tWg wg w₁ := fun h r => fm_of hF2 (by simp) rfl rfl h r
      refine Sc.up (N := N + 3 + 1) (by omega) ?_
      refine sc_of (n := 50) ?_
      walk_nrm
      u_op fm hF
      u_c stepG_region_end fm hF
      u_c stepG_ret' fm hF
      u_leave1 H.f_uLoad fm hF
      u_op fm hF
      u_c stepG_region_end fm hF
      u_c stepG_seq fm hF
      u_reg fm hF
      u_op fm hF
      u_op fm hF
      u_op fm hF
      u_op fm hF
      u_c stepG_region_end fm hF
      u_c stepG_seq fm hF
      u_reg fm hF
      u_op fm hF
      u_op fm hF
      u_op fm hF
      u_op fm hF
      u_c stepG_region_end fm hF
      u_c stepG_seq fm hF
      u_c stepG_seq fm hF
      u_reg fm hF
      u_op fm hF
      u_op fm hF
      u_c stepG_region_end fm hF
      u_cond true fm hF
      u_c stepG_seq fm hF
      u_cond true fm hF
      u_c stepG_seq fm hF
      u_reg fm hF
      refine Goes.stop (fun w₅ h₅ => ?_)
      replace hF := fm hF h₅
      clear h₅ fm
      refine ⟨rfl, .en _ (.inr rfl) rfl (stepG_mark0 .enable (by simp) rfl rfl (by k_ne) rfl H.f_enable (x_enable_n L) (x_enable_b L) (x_enable_x L) (x_enable_f L)) ?_⟩
      have fm : ∀ {w w₁ : World}, F w ∧ WgLive L.tWg wg w → ROf L.tWg ⟨.fin, 0, wg, bd, gs, grp, may, zone, chs, q⟩ w w₁ → F w₁ ∧ WgLive L.tWg wg w₁ := fun h r => fm_of hF2 (by simp) rfl rfl h r
      refine sc_of (n := 12) ?_
      walk_nrm
      u_c stepG_region_end fm hF
      u_reg fm hF
      u_op fm hF
      u_conv H.underlying_tWgP H.room_tWg (WgLive.cell0 hF.2).choose_spec fm hF
      refine Goes.stop (fun w₆ h₆ => ?_)
      replace hF := fm hF h₆
      clear h₆ fm
      refine ⟨rfl, .acq _ (mayF w₆.heap.size) (zoneF w₆.heap.size) rfl rfl (stepG_markAt .acquire (by simp) rfl rfl (by k_ne) rfl H.f_acquire (x_acquire_n L) (x_acquire_b L) (x_acquire_x L) (x_acquire_f L) (by simp [Act.eval, stA])) (fun b => hz _ b) (hm _ hF.1) ?_⟩
      obtain ⟨B, hB⟩ : ∃ B, w₆.heap.size = B := ⟨_, rfl⟩
      rw [hB]
      replace hF : (F w₆ ∧ WgLive L.tWg wg w₆) ∧ w₆.heap.size = B := ⟨hF, hB⟩
      have fm : ∀ {w w₁ : World}, (F w ∧ WgLive L.tWg wg w) ∧ w.heap.size = B → ROf L.tWg ⟨.law, 0, wg, bd, gs, grp, mayF B, zoneF B, chs, q⟩ w w₁ → (F w₁ ∧ WgLive L.tWg wg w₁) ∧ w₁.heap.size = B := fun h r => ⟨fm_law hF2 rfl h.1 r, by obtain ⟨d, rfl⟩ := r.1 rfl; exact h.2⟩
      refine Sc.up (N := N + 1) (by omega) ?_
      obtain ⟨mT, hT⟩ := hM
      have hT := hT bd B
      refine ⟨40 + mT, goes_join (n := 40) (m := mT) dm_nil (ROf.refl _ _) ?_⟩
      walk_nrm
      u_c stepG_region_end fm hF
      u_c stepG_seq fm hF
      u_c stepG_seq fm hF
      u_reg fm hF
      u_op fm hF
      u_op fm hF
      u_op fm hF
      u_op fm hF
      u_op fm hF
      u_op fm hF
      u_op fm hF
      u_op fm hF
      u_skip fm hF
      u_skip fm hF
      u_op fm hF
      u_c stepG_region_end fm hF
      u_cond false fm hF
      u_c stepG_skip fm hF
      u_c stepG_ret' fm hF
      u_leave0 H.f_wait fm hF
      exact Goes.stop fun w₇ h₇ => hT _ (fm hF h₇).1.1 (fm hF h₇).2
    · -- THE LOAD READS v * 2^32, v > 0
      have hv' : v ≤ 1000 := by omega
      obtain ⟨S, hS⟩ : ∃ S : Int, (v : Int) * KK = S := ⟨_, rfl⟩
      have a1 : S / 4294967296 = (v : Int) := by rw [← hS]; simp only [KK]; omega
      have b1 : bits .and .u64 S 2147483648 = 0 := by rw [← hS]; have := st_flag v 0 (by omega) (by omega); simpa [KK] using this
      have b2 : bits .and .u64 S 2147483647 = 0 := by rw [← hS]; have := st_waiters v 0 (by omega) (by omega); simpa [KK] using this
      have c1 : IntKind.i32.wrap (v : Int) = (v : Int) := by rw [IntKind.wrap_i32]; omega
      have w1 : IntKind.u64.wrap (S + 1) = S + 1 := by rw [IntKind.wrap_u64, ← hS]; simp only [KK]; omega
      have q3 : decide ((v : Int) < 0) = false := decide_eq_false (by omega)
      have q4 : decide (0 < (v : Int)) = true := decide_eq_true (by omega)
      have q5 : ((v : Int) == 0) = false := by simp; omega
      have q6 : decide ((v : Int) = 0) = false := decide_eq_false (by omega)
      rw [hS] at hw
      refine ⟨_, stepG_load_atomic (v := S) rfl rfl (by k_ne) rfl H.f_loadU64 (x_loadU64_n L) (x_loadU64_b L) (x_loadU64_x L) .u64 (x_loadU64_f L) rfl hw.cellSt, fun h0 => absurd h0 (by omega), fun _ => ?_⟩
      clear hw
      have fm : ∀ {w w₁ : World}, F w ∧ WgLive L.tWg wg w → ROf L.tWg ⟨.w2 v, 1, wg, bd, gs, grp, may, zone, chs, q⟩ w w₁ → F w₁ ∧ WgLive L.tWg wg w₁ := fun h r => fm_of hF2 (by simp) rfl rfl h r
      refine sc_of (n := 60) ?_
      walk_nrm
      u_op fm hF
      u_c stepG_region_end fm hF
      u_c stepG_ret' fm hF
      u_leave1 H.f_uLoad fm hF
      u_op fm hF
      u_c stepG_region_end fm hF
      u_c stepG_seq fm hF
      u_reg fm hF
      u_op fm hF
      u_op fm hF
      u_op fm hF
      u_op fm hF
      u_c stepG_region_end fm hF
      u_c stepG_seq fm hF
      u_reg fm hF
      u_op fm hF
      u_op fm hF
      u_op fm hF
      u_op fm hF
      u_c stepG_region_end fm hF
      u_c stepG_seq fm hF
      u_c stepG_seq fm hF
      u_reg fm hF
      u_op fm hF
      u_op fm hF
      u_c stepG_region_end fm hF
      u_cnd false fm hF
      u_c stepG_skip fm hF
      u_c stepG_seq fm hF
      u_reg fm hF
      u_op fm hF
      u_op fm hF
      u_op fm hF
      u_op fm hF
      u_op fm hF
      u_op fm hF
      u_call H.f_uCas (nm_uCas L) uCasFn fm hF
      u_c stepG_seq fm hF
      u_reg fm hF
      u_op fm hF
      u_c stepG_region_end fm hF
      u_c stepG_seq fm hF
      u_reg fm hF
      u_op fm hF
      u_op fm hF
      u_op fm hF
      u_op fm hF
      u_op fm hF
      refine Goes.stop (fun w₂ h₂ => ?_)
      replace hF := fm hF h₂
      clear h₂ fm
      refine ⟨rfl, .w2 v rfl rfl fun v' hv' hw => ⟨fun e => ?_, fun e => ?_⟩⟩
      · -- THE CompareAndSwap HITS: REGISTERED
        subst e
        rw [hS] at hw ⊢
        refine ⟨_, (stepG_cas_hit (v := S) (n := S + 1) rfl rfl (by k_ne) rfl H.f_casU64 (x_casU64_n L) (x_casU64_b L) (x_casU64_x L) .u64 (x_casU64_f L) rfl rfl rfl hw.cellSt (hw.thaw 0)).trans (by rfl), ?_⟩
        replace hF : F (w₂.setCell (stA wg) (.int .u64 (S + 1))) ∧ WgLive L.tWg wg (w₂.setCell (stA wg) (.int .u64 (S + 1))) := ⟨hF2 _ _ (rm_set (mr_wg hmay) rfl _ fun _ => ⟨_, _, hw.setSt _⟩) hF.1, ⟨_, _, hw.setSt _⟩⟩
        clear hw
        have fm : ∀ {w w₁ : World}, F w ∧ WgLive L.tWg wg w → ROf L.tWg ⟨.w3, 1, wg, bd, gs, grp, may, zone, chs, q⟩ w w₁ → F w₁ ∧ WgLive L.tWg wg w₁ := fun h r => fm_of hF2 (by simp) rfl rfl h r
        refine Sc.up (N := N + 6 + 1) (by omega) ?_
        refine sc_join (n := 40) (m := 40) ?_
        walk_nrm
        u_op fm hF
        u_c stepG_region_end fm hF
        u_c stepG_ret' fm hF
        u_leave1 H.f_uCas fm hF
        u_c stepG_region_end fm hF
        u_cond true fm hF
        u_c stepG_seq fm hF
        u_c stepG_seq fm hF
        u_reg fm hF
        u_op fm hF
        u_op fm hF
        u_op fm hF
        u_op fm hF
        u_c stepG_region_end fm hF
        u_cond true fm hF
        u_reg fm hF
        u_op fm hF
        u_op fm hF
        u_op fm hF
        u_conv H.underlying_tPU32 H.room_tU32 (WgLive.cell1 hF.2).choose_spec fm hF
        -- 'race.Write(unsafe.Pointer(&wg.sema))'
        refine Goes.stop (fun w₃ h₃ => ?_)
        replace hF := fm hF h₃
        clear h₃
        refine Goes.step rfl (fun w₄ h₄ => ?_)
        replace hF := fm hF h₄
        clear h₄
        rw [stepG_markAt .write (by simp) rfl rfl (by k_ne) rfl H.f_raceWrite (x_raceWrite_n L) (x_raceWrite_b L) (x_raceWrite_x L) (x_raceWrite_f L) (ad := ⟨wg, 1, none⟩) (by simp [Act.eval] <;> rfl)]
        simp only [goes_go]
        refine ⟨dm_said (.inr rfl) hgrp (live_lt hF.2), ?_⟩
        refine goesD (D := DC0) dm_of_dc0 ?_
        u_c stepG_region_end fm hF
        u_c stepG_seq fm hF
        u_reg fm hF
        u_op fm hF
        u_c stepG_region_end fm hF
        u_c stepG_seq fm hF
        u_c stepG_seq fm hF
        u_reg fm hF
        u_op fm hF
        u_op fm hF
        u_op fm hF
        u_op fm hF
        u_skip fm hF
        u_op fm hF
        u_c stepG_region_end fm hF
        u_cond false fm hF
        u_c stepG_skip fm hF
        u_c stepG_seq fm hF
        u_reg fm hF
        u_op fm hF
        u_op fm hF
        u_op fm hF
        u_op fm hF
        refine Goes.stop (fun w₃ h₃ => ?_)
        refine ⟨rfl, .w3 rfl rfl ⟨rfl, rfl, fun w₄ h₄ ⟨s, hw⟩ => stepG_semacquire_wait rfl rfl rfl H.f_semacquire (x_semacquire_n L) (x_semacquire_b L) (x_semacquire_x L) (x_semacquire_f L) (by simp [Act.eval, smA]) hw.cellSm, fun w₄ h₄ hf => ?_⟩⟩
        replace hF := fm (fm hF h₃) h₄
        clear h₃ h₄ fm
        refine ⟨_, (stepG_semacquire (n := 1) rfl rfl (by k_ne) rfl H.f_semacquire (x_semacquire_n L) (x_semacquire_b L) (x_semacquire_x L) (x_semacquire_f L) (by simp [Act.eval, smA]) hf.cellSm (by k_ne) (hf.thaw 1)).trans (by rfl), ?_⟩
        replace hF : F (w₄.setCell (smA wg) (.int .u32 0)) ∧ WgLive L.tWg wg (w₄.setCell (smA wg) (.int .u32 0)) := ⟨hF2 _ _ (rm_set (mr_wg hmay) rfl _ fun _ => ⟨_, _, hf.setSm 0⟩) hF.1, ⟨_, _, hf.setSm 0⟩⟩
        clear hf
        have fm : ∀ {w w₁ : World}, F w ∧ WgLive L.tWg wg w → ROf L.tWg ⟨.fin, 1, wg, bd, gs, grp, may, zone, chs, q⟩ w w₁ → F w₁ ∧ WgLive L.tWg wg w₁ := fun h r => fm_of hF2 (by simp) rfl rfl h r
        refine Sc.up (N := N + 4 + 1) (by omega) ?_
        refine sc_of (n := 30) ?_
        walk_nrm
        u_c stepG_region_end fm hF
        u_c stepG_seq fm hF
        u_reg fm hF
        u_op fm hF
        u_op fm hF
        u_op fm hF
        u_call H.f_uLoad (nm_uLoad L) uLoadFn fm hF
        u_c stepG_seq fm hF
        u_reg fm hF
        u_op fm hF
        u_c stepG_region_end fm hF
        u_c stepG_seq fm hF
        u_reg fm hF
        u_op fm hF
        u_op fm hF
        u_op fm hF
        refine Goes.stop (fun w₅ h₅ => ?_)
        replace hF := fm hF h₅
        clear h₅ fm
        refine ⟨rfl, .w4 rfl rfl fun hw => ⟨_, stepG_load_atomic (v := 0) rfl rfl (by k_ne) rfl H.f_loadU64 (x_loadU64_n L) (x_loadU64_b L) (x_loadU64_x L) .u64 (x_loadU64_f L) rfl hw.cellSt, ?_⟩⟩
        clear hw
        have fm : ∀ {w w₁ : World}, F w ∧ WgLive L.tWg wg w → ROf L.tWg ⟨.fin, 1, wg, bd, gs, grp, may, zone, chs, q⟩ w w₁ → F w₁ ∧ WgLive L.tWg wg w₁ := fun h r => fm_of hF2 (by simp) rfl rfl h r
        refine sc_of (n := 30) ?_
        walk_nrm
        u_op fm hF
        u_c stepG_region_end fm hF
        u_c stepG_ret' fm hF
        u_leave1 H.f_uLoad fm hF
        u_op fm hF
        u_op fm hF
        u_c stepG_region_end fm hF
        u_c stepG_seq fm hF
        u_cond true fm hF
        u_c stepG_seq fm hF
        u_reg fm hF
        refine Goes.stop (fun w₈ h₈ => ?_)
        replace hF := fm hF h₈
        clear h₈ fm
        refine ⟨rfl, .en _ (.inr rfl) rfl (stepG_mark0 .enable (by simp) rfl rfl (by k_ne) rfl H.f_enable (x_enable_n L) (x_enable_b L) (x_enable_x L) (x_enable_f L)) ?_⟩
        have fm : ∀ {w w₁ : World}, F w ∧ WgLive L.tWg wg w → ROf L.tWg ⟨.fin, 0, wg, bd, gs, grp, may, zone, chs, q⟩ w w₁ → F w₁ ∧ WgLive L.tWg wg w₁ := fun h r => fm_of hF2 (by simp) rfl rfl h r
        refine sc_of (n := 12) ?_
        walk_nrm
        u_c stepG_region_end fm hF
        u_reg fm hF
        u_op fm hF
        u_conv H.underlying_tWgP H.room_tWg (WgLive.cell0 hF.2).choose_spec fm hF
        refine Goes.stop (fun w₆ h₆ => ?_)
        replace hF := fm hF h₆
        clear h₆ fm
        refine ⟨rfl, .acq _ (mayF w₆.heap.size) (zoneF w₆.heap.size) rfl rfl (stepG_markAt .acquire (by simp) rfl rfl (by k_ne) rfl H.f_acquire (x_acquire_n L) (x_acquire_b L) (x_acquire_x L) (x_acquire_f L) (by simp [Act.eval, stA])) (fun b => hz _ b) (hm _ hF.1) ?_⟩
        obtain ⟨B, hB⟩ : ∃ B, w₆.heap.size = B := ⟨_, rfl⟩
        rw [hB]
        replace hF : (F w₆ ∧ WgLive L.tWg wg w₆) ∧ w₆.heap.size = B := ⟨hF, hB⟩
        have fm : ∀ {w w₁ : World}, (F w ∧ WgLive L.tWg wg w) ∧ w.heap.size = B → ROf L.tWg ⟨.law, 0, wg, bd, gs, grp, mayF B, zoneF B, chs, q⟩ w w₁ → (F w₁ ∧ WgLive L.tWg wg w₁) ∧ w₁.heap.size = B := fun h r => ⟨fm_law hF2 rfl h.1 r, by obtain ⟨d, rfl⟩ := r.1 rfl; exact h.2⟩
        refine Sc.up (N := N + 1) (by omega) ?_
        obtain ⟨mT, hT⟩ := hM
        have hT := hT bd B
        refine ⟨40 + mT, goes_join (n := 40) (m := mT) dm_nil (ROf.refl _ _) ?_⟩
        walk_nrm
        u_c stepG_region_end fm hF
        u_c stepG_seq fm hF
        u_c stepG_seq fm hF
        u_reg fm hF
        u_op fm hF
        u_c stepG_region_end fm hF
        u_cond false fm hF
        u_c stepG_skip fm hF
        u_c stepG_ret' fm hF
        u_leave0 H.f_wait fm hF
        exact Goes.stop fun w₇ h₇ => hT _ (fm hF h₇).1.1 (fm hF h₇).2
      · -- IT MISSES: BACK TO THE LOOP's HEAD
        refine ⟨_, stepG_cas_miss (v := (v' : Int) * KK) (old := S) (n := S + 1) rfl rfl (by k_ne) rfl H.f_casU64 (x_casU64_n L) (x_casU64_b L) (x_casU64_x L) .u64 (x_casU64_f L) rfl rfl rfl hw.cellSt (hw.thaw 0) (by rw [← hS]; simp only [KK]; omega), ?_⟩
        clear hw
        have fm : ∀ {w w₁ : World}, F w ∧ WgLive L.tWg wg w → ROf L.tWg ⟨.opn false, 1, wg, (v - 1), gs, grp, may, zone, chs, q⟩ w w₁ → F w₁ ∧ WgLive L.tWg wg w₁ := fun h r => fm_of hF2 (by simp) rfl rfl h r
        refine Sc.up (N := fu + 1) (by omega) ?_
        refine sc_join (n := 20) (m := 30) ?_
        walk_nrm
        u_op fm hF
        u_c stepG_region_end fm hF
        u_c stepG_ret' fm hF
        u_leave1 H.f_uCas fm hF
        u_c stepG_region_end fm hF
        u_cond false fm hF
        u_c stepG_skip fm hF
        u_c stepG_inBlock fm hF
        u_c stepG_inLoop fm hF
        refine Goes.stop (fun w₃ h₃ => ?_)
        replace hF := fm hF h₃
        exact ih (v - 1) (by omega) (by omega) _ _ ⟨_, rfl, by simp, by simp, hF⟩

set_option maxRecDepth 100000 in
set_option maxHeartbeats 8000000 in
/-- ████ Wait. ████ -/
theorem waitFarm {bd : Nat} (H : WgLib P L) (hbd : bd ≤ 1000) (hmay : ¬ may wg) (hgrp : grp wg) (hF2 : ∀ w w', RM L.tWg wg (mrOf wg may grp chs) w w' → F w → F w') (hz : ∀ B b, zone b → b < B → zoneF B b) (hm : ∀ w, F w → ∀ b, mayF w.heap.size b → ¬ zoneF w.heap.size b ∧ ¬ grp b)
    (hM : ∃ mT, ∀ bd B w, F w → w.heap.size = B → Goes P true (ROf L.tWg ⟨.law, 0, wg, bd, gs, grp, mayF B, zoneF B, chs, q⟩) (DM ⟨.law, 0, wg, bd, gs, grp, mayF B, zoneF B, chs, q⟩) (fun g w => g.status = .running ∧ MStop P L.tWg Post (Sc P L.tWg Post N) ⟨.law, 0, wg, bd, gs, grp, mayF B, zoneF B, chs, q⟩ g w) mT
      (G (b₀.at (a₀.put ((ops₀[i₀]?).bind (·.dst)) (.tuple #[])) (.inRegion ops₀ rest₀ :: k₀)) cs) w)
    (w : World) (hF : F w ∧ WgLive L.tWg wg w) :
    Goes P true (ROf L.tWg ⟨.opn false, 0, wg, bd, gs, grp, may, zone, chs, q⟩) (DM ⟨.opn false, 0, wg, bd, gs, grp, may, zone, chs, q⟩) (fun g w => g.status = .running ∧ MStop P L.tWg Post (Sc P L.tWg Post (N + 8 + 2 * (bd + 1) + 1)) ⟨.opn false, 0, wg, bd, gs, grp, may, zone, chs, q⟩ g w) 3
      (G ((base L.wait).at ⟨#[.pointer (some ⟨wg, 0, none⟩), undef, undef, undef, undef, undef, undef, undef, undef, undef, undef, undef, undef, undef, undef, undef, undef, undef, undef, undef, undef, undef, undef, undef, undef, undef, undef, undef, undef, undef, undef, undef, undef, undef, undef, undef, undef, undef, undef, undef, undef, undef, undef, undef, undef, undef, undef, undef, undef, undef, undef, undef, undef, undef, undef, undef, undef, undef, undef, undef, undef, undef, undef, undef, undef, undef, undef, undef, undef, undef, undef, undef, undef, undef, undef, undef, undef, undef, undef, undef, undef, undef, undef, undef], []⟩ [.code (body_wait L)]) (b₀.at a₀ (.inRegion ops₀ (i₀ :: rest₀) :: k₀) :: cs)) w := by
  lib_facts
  have fm : ∀ {w w₁ : World}, F w ∧ WgLive L.tWg wg w → ROf L.tWg ⟨.opn false, 0, wg, bd, gs, grp, may, zone, chs, q⟩ w w₁ → F w₁ ∧ WgLive L.tWg wg w₁ := fun h r => fm_of hF2 (by simp) rfl rfl h r
  refine goesD dm_of_dc0 (n := 3) ?_
  have ih := waitRoundF (N := N) (gs := gs) (chs := chs) (q := q) (b₀ := b₀) (a₀ := a₀) (ops₀ := ops₀) (i₀ := i₀) (rest₀ := rest₀) (k₀ := k₀) (cs := cs) H hmay hgrp hF2 hz hm hM (bd + 1) bd (Nat.lt_succ_self _) (by omega)
  simp only [body_wait, waitFn, Option.getD_some]
  u_c stepG_seq fm hF
  u_cond true fm hF
  u_reg fm hF
  refine Goes.stop (fun w₁ h₁ => ?_)
  replace hF := fm hF h₁
  clear h₁ fm
  refine ⟨rfl, .dis _ rfl rfl (stepG_mark0 .disable (by simp) rfl rfl (by k_ne) rfl H.f_disable (x_disable_n L) (x_disable_b L) (x_disable_x L) (x_disable_f L)) ?_⟩
  have fm : ∀ {w w₁ : World}, F w ∧ WgLive L.tWg wg w → ROf L.tWg ⟨.opn false, 1, wg, bd, gs, grp, may, zone, chs, q⟩ w w₁ → F w₁ ∧ WgLive L.tWg wg w₁ := fun h r => fm_of hF2 (by simp) rfl rfl h r
  refine sc_join (n := 3) (m := 30) ?_
  walk_nrm
  u_c stepG_region_end fm hF
  u_c stepG_block fm hF
  u_c stepG_loop fm hF
  refine Goes.stop (fun w₃ h₃ => ?_)
  replace hF := fm hF h₃
  exact ih _ _ ⟨_, rfl, by simp, by simp, hF⟩
end

end Go.Proofs.YtiodikflmijhkaaGreatDoor.Farm
end

section
namespace Go.Proofs.YtiodikflmijhkaaGreatDoor
abbrev lnk : Go.Conc.Lib.WgLink := { add := 39, done := 41, wait := 43, relMerge := 69, disable := 70, enable := 71, inBubble := 72, associate := 73, fatal := 74, uOr := 75, uAdd := 76, raceRead := 77, uLoad := 78, uStore := 79, disassociate := 80, semrelease := 81, acquire := 83, isAssociated := 84, uCas := 85, raceWrite := 86, semacquire := 87, orU64 := 111, addU64 := 112, loadU64 := 113, storeU64 := 114, casU64 := 115, tWgP := 96, tUP := 98, tAssoc := 99, tWg := 71, tAU := 69, tU64 := 67, tUint := 82, tU32 := 57, tPU32 := 103, tPAU := 125, tPU64 := 127, tNoCopy := 64, tANoCopy := 65, tAlign64 := 66 }
theorem wgL : Go.Conc.Lib.WgLib Tryz.prog lnk :=
  ⟨Tryz.func39, Tryz.func41, Tryz.func43, Tryz.func69, Tryz.func70, Tryz.func71, Tryz.func72, Tryz.func73, Tryz.func74, Tryz.func75, Tryz.func76, Tryz.func77, Tryz.func78, Tryz.func79, Tryz.func80, Tryz.func81, Tryz.func83, Tryz.func84, Tryz.func85, Tryz.func86, Tryz.func87, Tryz.func111, Tryz.func112, Tryz.func113, Tryz.func114, Tryz.func115, Tryz.underlying96, Tryz.runUnderlying96, Tryz.sizeOf96, Tryz.isAgg96, Tryz.zeroValue96, Tryz.underlying98, Tryz.runUnderlying98, Tryz.sizeOf98, Tryz.isAgg98, Tryz.zeroValue98, Tryz.underlying99, Tryz.runUnderlying99, Tryz.sizeOf99, Tryz.isAgg99, Tryz.zeroValue99, Tryz.underlying71, Tryz.runUnderlying71, Tryz.sizeOf71, Tryz.isAgg71, Tryz.zeroValue71, Tryz.underlying69, Tryz.runUnderlying69, Tryz.sizeOf69, Tryz.isAgg69, Tryz.zeroValue69, Tryz.underlying67, Tryz.runUnderlying67, Tryz.sizeOf67, Tryz.isAgg67, Tryz.zeroValue67, Tryz.underlying82, Tryz.runUnderlying82, Tryz.sizeOf82, Tryz.isAgg82, Tryz.zeroValue82, Tryz.underlying57, Tryz.runUnderlying57, Tryz.sizeOf57, Tryz.isAgg57, Tryz.zeroValue57, Tryz.underlying103, Tryz.runUnderlying103, Tryz.sizeOf103, Tryz.isAgg103, Tryz.zeroValue103, Tryz.underlying125, Tryz.runUnderlying125, Tryz.sizeOf125, Tryz.isAgg125, Tryz.zeroValue125, Tryz.underlying127, Tryz.runUnderlying127, Tryz.sizeOf127, Tryz.isAgg127, Tryz.zeroValue127, Tryz.underlying0, Tryz.runUnderlying0, Tryz.sizeOf0, Tryz.isAgg0, Tryz.zeroValue0, Tryz.underlying3, Tryz.runUnderlying3, Tryz.sizeOf3, Tryz.isAgg3, Tryz.zeroValue3, Tryz.underlying4, Tryz.runUnderlying4, Tryz.sizeOf4, Tryz.isAgg4, Tryz.zeroValue4, Tryz.underlying9, Tryz.runUnderlying9, Tryz.sizeOf9, Tryz.isAgg9, Tryz.zeroValue9, Tryz.underlying20, Tryz.runUnderlying20, Tryz.sizeOf20, Tryz.isAgg20, Tryz.zeroValue20, Tryz.underlying21, Tryz.runUnderlying21, Tryz.sizeOf21, Tryz.isAgg21, Tryz.zeroValue21, (by kernel_rfl), (by kernel_rfl)⟩
open Go.Conc Go.ConcR

/-- A worker's own cells: those of its copy of the vector. -/
instance payV : Payload := ⟨36⟩
end Go.Proofs.YtiodikflmijhkaaGreatDoor
end
