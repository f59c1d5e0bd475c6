import Derived.Test.YtiodikflmijhkaaFA
import Derived.Conc.WgGenN3
import Derived.Test.YtiodikflmijhkaaChecked
import Derived.Test.YtiodikflmijhkaaC159
import Derived.Conc.WgWords
import Derived.Conc.TokenWalk
import Derived.Conc.CompanyDraw
import Derived.Conc.AppendEvents3
import Derived.Laws.Tables
import Derived.Conc.SmallLaws
import Derived.Conc.Listed
/- The farm: the library's Add(1) as a stretch of the starter's script. No program is named here. -/
set_option linter.unusedSectionVars false
set_option linter.unusedVariables false
namespace Go.Proofs.Ytiodikflmijhkaa.Farm
open Go.Conc Go.ConcN Go.RowKit Go.Conc.Lib Go.ConcR.Gen Go.ConcN.Gen
open Go.ConcR (KK wgBlock WgAt stA smA rd wr mk Payload Aside2 DC0)
variable [Payload] {L : WgLink}

section
variable {P : Program} {main : Bool} {R : World → World → Prop} {D D' : World → World → Array Event → Prop} {Stop : Goroutine → World → Prop}

theorem goesD (hD : ∀ w w' es, D w w' es → D' w w' es) : ∀ {n : Nat} {g : Goroutine} {w : World}, Goes P main R D Stop n g w → Goes P main R D' Stop n g w
  | 0, _, _, h => h
  | n + 1, g, w, h => by
    rcases h with h | ⟨hr, h⟩
    · exact .inl h
    · refine .inr ⟨hr, fun w₁ r => ?_⟩
      obtain ⟨g', w', es, e, hd, hn⟩ := goes_elim (h w₁ r)
      rw [e]
      exact ⟨hD _ _ _ hd, goesD hD hn⟩

theorem goes_up {n m : Nat} {g : Goroutine} {w : World} (h : Goes P main R D Stop n g w) : Goes P main R D Stop (m + n) g w := by
  induction m with
  | zero => rwa [Nat.zero_add]
  | succ m ih => rw [Nat.succ_add]; exact ih.more

/-- A silent stretch, and what follows it. -/
theorem goes_join (hD : ∀ w, D w w #[]) (hR : ∀ w, R w w) {m : Nat} : ∀ {n : Nat} {g : Goroutine} {w : World}, Goes P main R DC0 (fun g w => Goes P main R D Stop m g w) n g w → Goes P main R D Stop (n + m) g w
  | 0, g, w, h => by rw [Nat.zero_add]; exact h w (hR w)
  | n + 1, g, w, h => by
    rcases h with h | ⟨hr, h⟩
    · exact goes_up (h w (hR w))
    · rw [Nat.succ_add]
      refine .inr ⟨hr, fun w₁ r => ?_⟩
      obtain ⟨g', w', es, e, ⟨rfl, rfl⟩, hn⟩ := goes_elim (h w₁ r)
      rw [e]
      exact ⟨hD _, goes_join hD hR hn⟩
end

section
variable {P : Program} {ty : TypeId} {Post : MSt → Goroutine → World → Prop} {st : MSt} {g : Goroutine} {w w' : World}

theorem dm_nil (w : World) : DM st w w #[] := ⟨Nat.le_refl _, fun _ => rfl, fun _ _ _ => rfl, by simp⟩
theorem dm_of_dc0 : ∀ w w' es, DC0 w w' es → DM st w w' es := by rintro w w' es ⟨rfl, rfl⟩; exact dm_nil _
theorem sc_of {N n : Nat} (h : Goes P true (ROf ty st) DC0 (fun g w => g.status = .running ∧ MStop P ty Post (Sc P ty Post N) st g w) n g w) : Sc P ty Post (N + 1) st g w := ⟨n, goesD dm_of_dc0 h⟩
theorem sc_join {N n m : Nat} (h : Goes P true (ROf ty st) DC0 (fun g w => Goes P true (ROf ty st) (DM st) (fun g w => g.status = .running ∧ MStop P ty Post (Sc P ty Post N) st g w) m g w) n g w) : Sc P ty Post (N + 1) st g w :=
  ⟨n + m, goes_join dm_nil (ROf.refl ty st) h⟩

theorem evM_said {a : Addr} {B : Nat} {m : Mark} (hm : m = .read a ∨ m = .write a) (hg : st.grp a.block) (hB : a.block < B) : EvM st B ⟨.mark m, false, true⟩ := by
  rcases hm with rfl | rfl
  all_goals
    refine ⟨fun x hx => ?_, by simp, by simp, by simp, hB⟩
    simp only [MemAct.ofEvent, MemAct.touch?, Option.some.injEq] at hx
    subst hx
    exact .inl ⟨hg, by simp⟩
theorem dm_said {a : Addr} {m : Mark} (hm : m = .read a ∨ m = .write a) (hg : st.grp a.block) (hB : a.block < w.heap.size) : DM st w w #[⟨.mark m, false, true⟩] :=
  ⟨Nat.le_refl _, fun _ => rfl, fun _ _ _ => rfl, fun e he => by rw [Array.mem_singleton] at he; subst he; exact evM_said hm hg hB⟩
theorem live_lt {wg : Nat} (h : WgLive ty wg w) : wg < w.heap.size := by
  obtain ⟨s, m, h⟩ := h
  have hc := h.cellSt
  unfold World.cell? stA at hc
  simp only at hc
  cases hb : w.heap[wg]? with
  | none => rw [hb] at hc; cases hc
  | some o => exact (Array.getElem?_eq_some_iff.1 hb).1

def mrOf (wg : Nat) (may grp chs : Nat → Prop) (b : Nat) : Prop := may b ∨ (grp b ∧ ¬ chs b ∧ wg < b)
theorem mr_wg {wg : Nat} {may grp chs : Nat → Prop} (h : ¬ may wg) : ¬ mrOf wg may grp chs wg := fun x => x.elim h fun y => Nat.lt_irrefl _ y.2.2
/-- What the starter knows, and that the group's block is one: over what it suffers. -/
theorem fm_of {wg : Nat} {may : Nat → Prop} {F : World → Prop} (hF2 : ∀ w w', RM ty wg may w w' → F w → F w') (hl : st.tag ≠ .law) (hw : st.wg = wg) (hm : st.mr = may) {w w₁ : World} (h : F w ∧ WgLive ty wg w) (r : ROf ty st w w₁) : F w₁ ∧ WgLive ty wg w₁ := by
  subst hw hm
  exact ⟨hF2 _ _ (r.2 hl) h.1, (r.2 hl).live h.2⟩
theorem fm_law {wg : Nat} {may : Nat → Prop} {F : World → Prop} (hF2 : ∀ w w', RM ty wg may w w' → F w → F w') (hl : st.tag = .law) {w w₁ : World} (h : F w ∧ WgLive ty wg w) (r : ROf ty st w w₁) : F w₁ ∧ WgLive ty wg w₁ := by
  obtain ⟨d, rfl⟩ := r.1 hl
  exact ⟨hF2 _ _ (RM.at w d) h.1, h.2⟩
theorem rm_set {wg : Nat} {may : Nat → Prop} (hm : ¬ may wg) {a : Addr} (ha : a.block = wg) (v : Value) (hL : WgLive ty wg w → WgLive ty wg (w.setCell a v)) : RM ty wg may w (w.setCell a v) := by
  have hA := aside_setCell w a v
  exact ⟨hA.tape, hA.os, hA.output, by rw [hA.size]; exact Nat.le_refl _, fun b hb => hA.block b (fun e => hm (by rw [← ha, ← e]; exact hb)), fun b hb => hA.block b (by rw [ha]; omega), hL⟩
end

section
variable {P : Program} {Post : MSt → Goroutine → World → Prop} {wg bd gs : Nat} {grp may zone chs : Nat → Prop} {q : Nat → List Value} {F : World → Prop} {N : Nat}
  {b₀ : Frame} {a₀ : Act} {ops₀ : Array Oper} {i₀ : Nat} {rest₀ : List Nat} {k₀ : List Item} {cs : List Frame}

set_option maxRecDepth 100000 in
set_option maxHeartbeats 8000000 in
/-- ████ Add(1), WHATEVER THE OTHERS DO MEANWHILE. ████ -/
theorem addFarm (H : WgLib P L) (hbd : bd < 1000) (hmay : ¬ may wg) (hgrp : grp wg) (hF2 : ∀ w w', RM L.tWg wg (mrOf wg may grp chs) w w' → F w → F w')
    (hM : ∃ mT, ∀ w, F w → WgLive L.tWg wg w → Goes P true (ROf L.tWg ⟨.opn true, 0, wg, bd + 1, gs, grp, may, zone, chs, q⟩) (DM ⟨.opn true, 0, wg, bd + 1, gs, grp, may, zone, chs, q⟩) (fun g w => g.status = .running ∧ MStop P L.tWg Post (Sc P L.tWg Post N) ⟨.opn true, 0, wg, bd + 1, gs, grp, may, zone, chs, q⟩ g w) mT
      (G (b₀.at (a₀.put ((ops₀[i₀]?).bind (·.dst)) (.tuple #[])) (.inRegion ops₀ rest₀ :: k₀)) cs) w)
    (w : World) (hF : F w ∧ WgLive L.tWg wg w) :
    Goes P true (ROf L.tWg ⟨.opn false, 0, wg, bd, gs, grp, may, zone, chs, q⟩) (DM ⟨.opn false, 0, wg, bd, gs, grp, may, zone, chs, q⟩) (fun g w => g.status = .running ∧ MStop P L.tWg Post (Sc P L.tWg Post (N + 1 + 1 + 1)) ⟨.opn false, 0, wg, bd, gs, grp, may, zone, chs, q⟩ g w) 12
      (G ((base L.add).at ⟨#[.pointer (some ⟨wg, 0, none⟩), .int .i64 1, undef, undef, undef, undef, undef, undef, undef, undef, undef, undef, undef, undef, undef, undef, undef, undef, undef, undef, undef, undef, undef, undef, undef, undef, undef, undef, undef, undef, undef, undef, undef, undef, undef, undef, undef, undef, undef, undef, undef, undef, undef, undef, undef, undef, undef, undef, undef, undef, undef, undef, undef, undef, undef, undef, undef, undef, undef, undef, undef, undef, undef, undef, undef, undef, undef, undef, undef, undef, undef, undef, undef, undef, undef, undef, undef, undef, undef, undef, undef, undef, undef, undef, undef, undef, undef, undef, undef, undef, undef, undef, undef, undef, undef, undef, undef, undef, undef, undef, undef, undef, undef, undef, undef, undef, undef, undef, undef, undef, undef, undef, undef, undef, undef, undef, undef], []⟩ [.code (body_add L)]) (b₀.at a₀ (.inRegion ops₀ (i₀ :: rest₀) :: k₀) :: cs)) w := by
  lib_facts
  have fm : ∀ {w w₁ : World}, F w ∧ WgLive L.tWg wg w → ROf L.tWg ⟨.opn false, 0, wg, bd, gs, grp, may, zone, chs, q⟩ w w₁ → F w₁ ∧ WgLive L.tWg wg w₁ := fun h r => fm_of hF2 (by simp) rfl rfl h r
  refine goesD dm_of_dc0 (n := 12) ?_
  simp only [body_add, addFn, Option.getD_some]
  u_c stepG_seq fm hF
  u_cond true fm hF
  u_c stepG_seq fm hF
  u_c stepG_seq fm hF
  u_reg fm hF
  u_op fm hF
  u_op fm hF
  u_c stepG_region_end fm hF
  u_cond false fm hF
  u_c stepG_skip fm hF
  u_c stepG_seq fm hF
  u_reg fm hF
  refine Goes.stop (fun w₁ h₁ => ?_)
  replace hF := fm hF h₁
  clear h₁ fm
  refine ⟨rfl, .dis _ rfl rfl (stepG_mark0 .disable (by simp) rfl rfl (by k_ne) rfl H.f_disable (x_disable_n L) (x_disable_b L) (x_disable_x L) (x_disable_f L)) ?_⟩
  have fm : ∀ {w w₁ : World}, F w ∧ WgLive L.tWg wg w → ROf L.tWg ⟨.opn false, 1, wg, bd, gs, grp, may, zone, chs, q⟩ w w₁ → F w₁ ∧ WgLive L.tWg wg w₁ := fun h r => fm_of hF2 (by simp) rfl rfl h r
  refine sc_of (n := 40) ?_
  walk_nrm
  u_c stepG_region_end fm hF
  u_reg fm hF
  u_defer fm hF
  u_c stepG_region_end fm hF
  u_c stepG_seq fm hF
  u_reg fm hF
  u_op fm hF
  u_c stepG_region_end fm hF
  u_c stepG_seq fm hF
  u_c stepG_seq fm hF
  u_reg fm hF
  u_bub fm hF
  u_c stepG_region_end fm hF
  u_cond false fm hF
  u_c stepG_skip fm hF
  u_c stepG_seq fm hF
  u_reg fm hF
  u_op fm hF
  u_op fm hF
  u_op fm hF
  u_op fm hF
  u_op fm hF
  u_op fm hF
  u_call H.f_uAdd (nm_uAdd L) uAddFn fm hF
  u_c stepG_seq fm hF
  u_reg fm hF
  u_op fm hF
  u_c stepG_region_end fm hF
  u_c stepG_seq fm hF
  u_reg fm hF
  u_op fm hF
  u_op fm hF
  u_op fm hF
  u_op fm hF
  refine Goes.stop (fun w₂ h₂ => ?_)
  replace hF := fm hF h₂
  clear h₂ fm
  refine ⟨rfl, .add rfl rfl hbd fun v hv hw => ?_⟩
  have fm : ∀ {w w₁ : World}, F w ∧ WgLive L.tWg wg w → ROf L.tWg ⟨.opn true, 1, wg, bd + 1, gs, grp, may, zone, chs, q⟩ w w₁ → F w₁ ∧ WgLive L.tWg wg w₁ := fun h r => fm_of hF2 (by simp) rfl rfl h r
  rcases Nat.eq_zero_or_pos v with rfl | hvp
  · -- THE COUNT IS NOW 1
    replace hw : WgAt L.tWg wg w₂ 0 0 := by simpa using hw
    have z : (((0 : Nat) : Int) + 1) * KK = KK := by simp
    rw [z]
    have e0 : IntKind.u64.wrap (0 + 4294967296) = KK := by decide
    refine ⟨_, (stepG_add_atomic rfl rfl (by k_ne) rfl H.f_addU64 (x_addU64_n L) (x_addU64_b L) (x_addU64_x L) .u64 (x_addU64_f L) rfl rfl hw.cellSt (hw.thaw 0)).trans (by rw [e0]; rfl), ?_⟩
    replace hF : F (w₂.setCell (stA wg) (.int .u64 KK)) ∧ WgLive L.tWg wg (w₂.setCell (stA wg) (.int .u64 KK)) := ⟨hF2 _ _ (rm_set (mr_wg hmay) rfl _ fun _ => ⟨_, _, hw.setSt _⟩) hF.1, ⟨_, _, hw.setSt _⟩⟩
    clear hw
    refine sc_join (n := 70) (m := 60) ?_
    simp only [KK] at hF ⊢
    walk_nrm
    u_op fm hF
    u_c stepG_region_end fm hF
    u_c stepG_ret' fm hF
    u_leave1 H.f_uAdd fm hF
    u_op fm hF
    u_c stepG_region_end fm hF
    u_c stepG_seq fm hF
    u_c stepG_seq fm hF
    u_reg fm hF
    u_op fm hF
    u_op fm hF
    u_op fm hF
    u_op fm hF
    u_skip fm hF
    u_skip fm hF
    u_op fm hF
    u_c stepG_region_end fm hF
    u_cnd false fm hF
    u_c stepG_skip fm hF
    u_c stepG_seq fm hF
    u_reg fm hF
    u_op fm hF
    u_op fm hF
    u_op fm hF
    u_op fm hF
    u_c stepG_region_end fm hF
    u_c stepG_seq fm hF
    u_reg fm hF
    u_op fm hF
    u_op fm hF
    u_op fm hF
    u_op fm hF
    u_c stepG_region_end fm hF
    u_c stepG_seq fm hF
    u_c stepG_seq fm hF
    u_reg fm hF
    u_op fm hF
    u_op fm hF
    u_op fm hF
    u_op fm hF
    u_op fm hF
    u_op fm hF
    u_op fm hF
    u_op fm hF
    u_op fm hF
    u_op fm hF
    u_c stepG_region_end fm hF
    u_cond true fm hF
    u_reg fm hF
    u_op fm hF
    u_op fm hF
    u_op fm hF
    u_conv H.underlying_tPU32 H.room_tU32 (WgLive.cell1 hF.2).choose_spec fm hF
    -- 'race.Read(unsafe.Pointer(&wg.sema))'
    refine Goes.stop (fun w₃ h₃ => ?_)
    replace hF := fm hF h₃
    clear h₃
    refine Goes.step rfl (fun w₄ h₄ => ?_)
    replace hF := fm hF h₄
    clear h₄
    rw [stepG_markAt .read (by simp) rfl rfl (by k_ne) rfl H.f_raceRead (x_raceRead_n L) (x_raceRead_b L) (x_raceRead_x L) (x_raceRead_f L) (ad := ⟨wg, 1, none⟩) (by simp [Act.eval])]
    simp only [goes_go]
    refine ⟨dm_said (.inl rfl) hgrp (live_lt hF.2), ?_⟩
    walk_nrm
    refine goesD (D := DC0) dm_of_dc0 ?_
    u_c stepG_region_end fm hF
    u_c stepG_seq fm hF
    u_c stepG_seq fm hF
    u_reg fm hF
    u_op fm hF
    u_op fm hF
    u_c stepG_region_end fm hF
    u_cnd false fm hF
    u_c stepG_skip fm hF
    u_c stepG_seq fm hF
    u_c stepG_seq fm hF
    u_reg fm hF
    u_op fm hF
    u_op fm hF
    u_op fm hF
    u_skip fm hF
    u_skip fm hF
    u_op fm hF
    u_op fm hF
    u_skip fm hF
    u_skip fm hF
    u_skip fm hF
    u_skip fm hF
    u_op fm hF
    u_c stepG_region_end fm hF
    u_cnd false fm hF
    u_c stepG_skip fm hF
    u_c stepG_seq fm hF
    u_c stepG_seq fm hF
    u_reg fm hF
    u_op fm hF
    u_op fm hF
    u_op fm hF
    u_skip fm hF
    u_skip fm hF
    u_op fm hF
    u_c stepG_region_end fm hF
    u_cnd true fm hF
    u_c stepG_ret' fm hF
    refine Goes.stop (fun w₃ h₃ => ?_)
    replace hF := fm hF h₃
    clear h₃ fm
    refine ⟨rfl, .en _ (.inl rfl) rfl (stepG_unwind_entry (v := .tuple #[]) (evs := #[mk .enable]) rfl H.f_enable (x_enable_n L) (x_enable_b L) (x_enable_x L) (x_enable_f L) (by simp [Extern.Race.none_]) (by simp [mk]) (by simp [mk])) ?_⟩
    have fm : ∀ {w w₁ : World}, F w ∧ WgLive L.tWg wg w → ROf L.tWg ⟨.opn true, 0, wg, bd + 1, gs, grp, may, zone, chs, q⟩ w w₁ → F w₁ ∧ WgLive L.tWg wg w₁ := fun h r => fm_of hF2 (by simp) rfl rfl h r
    obtain ⟨mT, hT⟩ := hM
    refine ⟨1 + mT, goes_join (n := 1) (m := mT) dm_nil (ROf.refl _ _) ?_⟩
    u_leave0 H.f_add fm hF
    exact Goes.stop fun w₅ h₅ => hT _ (fm hF h₅).1 (fm hF h₅).2
  · -- IT IS MORE
    obtain ⟨V, hV⟩ : ∃ V : Int, V = (v : Int) + 1 := ⟨_, rfl⟩
    obtain ⟨S, hS⟩ : ∃ S : Int, S = V * KK := ⟨_, rfl⟩
    have eS : IntKind.u64.wrap ((v : Int) * KK + 4294967296) = S := by rw [IntKind.wrap_u64, hS, hV]; simp only [KK]; omega
    rw [← hV, ← hS]
    have a1 : S / 4294967296 = V := by rw [hS]; simp only [KK]; omega
    have b1 : bits .and .u64 S 2147483648 = 0 := by rw [hS, hV]; have := st_flag (v + 1) 0 (by omega) (by omega); simpa [KK] using this
    have b2 : bits .and .u64 S 2147483647 = 0 := by rw [hS, hV]; have := st_waiters (v + 1) 0 (by omega) (by omega); simpa [KK] using this
    have c1 : IntKind.i32.wrap V = V := by rw [IntKind.wrap_i32]; omega
    have hV1 : 1 < V := by omega
    have hV2 : V < 2147483648 := by omega
    have q1 : (V == 1) = false := by simp; omega
    have q2 : decide (V = 1) = false := decide_eq_false (by omega)
    have q3 : decide (V < 0) = false := decide_eq_false (by omega)
    have q4 : decide (0 < V) = true := decide_eq_true (by omega)
    have q5 : (V == 0) = false := by simp; omega
    have q6 : decide (V = 0) = false := decide_eq_false (by omega)
    refine ⟨_, (stepG_add_atomic rfl rfl (by k_ne) rfl H.f_addU64 (x_addU64_n L) (x_addU64_b L) (x_addU64_x L) .u64 (x_addU64_f L) rfl rfl hw.cellSt (hw.thaw 0)).trans (by rw [eS]; rfl), ?_⟩
    replace hF : F (w₂.setCell (stA wg) (.int .u64 S)) ∧ WgLive L.tWg wg (w₂.setCell (stA wg) (.int .u64 S)) := ⟨hF2 _ _ (rm_set (mr_wg hmay) rfl _ fun _ => ⟨_, _, hw.setSt _⟩) hF.1, ⟨_, _, hw.setSt _⟩⟩
    clear hw hS hV eS
    refine sc_of (n := 110) ?_
    walk_nrm
    u_op fm hF
    u_c stepG_region_end fm hF
    u_c stepG_ret' fm hF
    u_leave1 H.f_uAdd fm hF
    u_op fm hF
    u_c stepG_region_end fm hF
    u_c stepG_seq fm hF
    u_c stepG_seq fm hF
    u_reg fm hF
    u_op fm hF
    u_op fm hF
    u_op fm hF
    u_op fm hF
    u_skip fm hF
    u_skip fm hF
    u_op fm hF
    u_c stepG_region_end fm hF
    u_cnd false fm hF
    u_c stepG_skip fm hF
    u_c stepG_seq fm hF
    u_reg fm hF
    u_op fm hF
    u_op fm hF
    u_op fm hF
    u_op fm hF
    u_c stepG_region_end fm hF
    u_c stepG_seq fm hF
    u_reg fm hF
    u_op fm hF
    u_op fm hF
    u_op fm hF
    u_op fm hF
    u_c stepG_region_end fm hF
    u_c stepG_seq fm hF
    u_c stepG_seq fm hF
    u_reg fm hF
    u_op fm hF
    u_op fm hF
    u_op fm hF
    u_op fm hF
    u_op fm hF
    u_op fm hF
    u_op fm hF
    u_op fm hF
    u_op fm hF
    u_op fm hF
    u_c stepG_region_end fm hF
    u_cnd false fm hF
    u_c stepG_skip fm hF
    u_c stepG_seq fm hF
    u_c stepG_seq fm hF
    u_reg fm hF
    u_op fm hF
    u_op fm hF
    u_c stepG_region_end fm hF
    u_cnd false fm hF
    u_c stepG_skip fm hF
    u_c stepG_seq fm hF
    u_c stepG_seq fm hF
    u_reg fm hF
    u_op fm hF
    u_op fm hF
    u_op fm hF
    u_skip fm hF
    u_skip fm hF
    u_op fm hF
    u_op fm hF
    u_skip fm hF
    u_skip fm hF
    u_skip fm hF
    u_skip fm hF
    u_op fm hF
    u_c stepG_region_end fm hF
    u_cnd false fm hF
    u_c stepG_skip fm hF
    u_c stepG_seq fm hF
    u_c stepG_seq fm hF
    u_reg fm hF
    u_op fm hF
    u_op fm hF
    u_op fm hF
    u_skip fm hF
    u_skip fm hF
    u_op fm hF
    u_c stepG_region_end fm hF
    u_cnd true fm hF
    u_c stepG_ret' fm hF
    refine Goes.stop (fun w₃ h₃ => ?_)
    replace hF := fm hF h₃
    clear h₃ fm
    refine ⟨rfl, .en _ (.inl rfl) rfl (stepG_unwind_entry (v := .tuple #[]) (evs := #[mk .enable]) rfl H.f_enable (x_enable_n L) (x_enable_b L) (x_enable_x L) (x_enable_f L) (by simp [Extern.Race.none_]) (by simp [mk]) (by simp [mk])) ?_⟩
    have fm : ∀ {w w₁ : World}, F w ∧ WgLive L.tWg wg w → ROf L.tWg ⟨.opn true, 0, wg, bd + 1, gs, grp, may, zone, chs, q⟩ w w₁ → F w₁ ∧ WgLive L.tWg wg w₁ := fun h r => fm_of hF2 (by simp) rfl rfl h r
    obtain ⟨mT, hT⟩ := hM
    refine ⟨1 + mT, goes_join (n := 1) (m := mT) dm_nil (ROf.refl _ _) ?_⟩
    u_leave0 H.f_add fm hF
    exact Goes.stop fun w₅ h₅ => hT _ (fm hF h₅).1 (fm hF h₅).2
end

end Go.Proofs.Ytiodikflmijhkaa.Farm
/- The farm: the library's Wait as a stretch of the starter's script. No program is named here. -/
set_option linter.unusedSectionVars false
set_option linter.unusedVariables false
namespace Go.Proofs.Ytiodikflmijhkaa.Farm
open Go.Conc Go.ConcN Go.RowKit Go.Conc.Lib Go.ConcR.Gen Go.ConcN.Gen
open Go.ConcR (KK wgBlock WgAt stA smA rd wr mk Payload Aside2 DC0)
variable [Payload] {L : WgLink}

section
variable {P : Program} {ty : TypeId} {Post : MSt → Goroutine → World → Prop}

theorem MStop.mono {K K' : MSt → Goroutine → World → Prop} (h : ∀ st g w, K st g w → K' st g w) {st : MSt} {g : Goroutine} {w : World} (x : MStop P ty Post K st g w) : MStop P ty Post K' st g w := by
  cases x with
  | newc o g' h1 h2 h3 h4 => exact .newc o g' h1 h2 h3 (h _ _ _ h4)
  | new o g' h1 h2 h3 h4 => exact .new o g' h1 h2 h3 (h _ _ _ h4)
  | wg g' Z may h1 h2 h3 h4 h5 h6 => exact .wg g' Z may h1 h2 h3 h4 h5 (h _ _ _ h6)
  | dis g' h1 h2 h3 h4 => exact .dis g' h1 h2 h3 (h _ _ _ h4)
  | en g' h1 h2 h3 h4 => exact .en g' h1 h2 h3 (h _ _ _ h4)
  | add h1 h2 h3 h4 => exact .add h1 h2 h3 fun v hv hw => let ⟨g', e, k⟩ := h4 v hv hw; ⟨g', e, h _ _ _ k⟩
  | go g' child S c Nw vs may h1 h2 h3 h4 h5 h6 h7 h8 h9 h10 h11 h12 h13 h14 h15 => exact .go g' child S c Nw vs may h1 h2 h3 h4 h5 h6 h7 h8 h9 h10 h11 h12 h13 h14 (h _ _ _ h15)
  | recv c z g₂ h1 h2 h3 h4 => exact .recv c z g₂ h1 h2 h3 ⟨h4.run, h4.fr, h4.cs, h4.dy, h4.step, fun v r e => h _ _ _ (h4.some v r e), fun e => h _ _ _ (h4.none e)⟩
  | w1 h1 h2 h3 => exact .w1 h1 h2 fun v hv hw => let ⟨g', e, k1, k2⟩ := h3 v hv hw; ⟨g', e, fun x => h _ _ _ (k1 x), fun x => h _ _ _ (k2 x)⟩
  | w2 vs h1 h2 h3 => exact .w2 vs h1 h2 fun v hv hw => let ⟨k1, k2⟩ := h3 v hv hw; ⟨fun x => let ⟨g', e, k⟩ := k1 x; ⟨g', e, h _ _ _ k⟩, fun x => let ⟨g', e, k⟩ := k2 x; ⟨g', e, h _ _ _ k⟩⟩
  | w3 h1 h2 h3 => exact .w3 h1 h2 ⟨h3.run, h3.off, h3.wait, fun w₁ r hw => let ⟨g', e, k⟩ := h3.pass w₁ r hw; ⟨g', e, h _ _ _ k⟩⟩
  | w4 h1 h2 h3 => exact .w4 h1 h2 fun hw => let ⟨g', e, k⟩ := h3 hw; ⟨g', e, h _ _ _ k⟩
  | acq g' may zone h1 h2 h3 h4 h5 h6 => exact .acq g' may zone h1 h2 h3 h4 h5 (h _ _ _ h6)
  | cont h1 h2 h3 => exact .cont h1 h2 h3

theorem Sc.succ : ∀ {N : Nat} {st : MSt} {g : Goroutine} {w : World}, Sc P ty Post N st g w → Sc P ty Post (N + 1) st g w
  | 0, _, _, _, h => h.elim
  | N + 1, st, g, w, ⟨m, h⟩ => ⟨m, goes_mono (fun g w x => ⟨x.1, x.2.mono fun st g w k => Sc.succ k⟩) h⟩
theorem Sc.up {N M : Nat} (hle : N ≤ M) {st : MSt} {g : Goroutine} {w : World} (h : Sc P ty Post N st g w) : Sc P ty Post M st g w := by
  induction hle with
  | refl => exact h
  | step _ ih => exact ih.succ
end

section
variable {P : Program} {Post : MSt → Goroutine → World → Prop} {wg gs : Nat} {grp may zone chs : Nat → Prop} {q : Nat → List Value} {F : World → Prop} {N : Nat} {mayF zoneF : Nat → Nat → Prop}
  {b₀ : Frame} {a₀ : Act} {ops₀ : Array Oper} {i₀ : Nat} {rest₀ : List Nat} {k₀ : List Item} {cs : List Frame}

set_option maxRecDepth 100000 in
set_option maxHeartbeats 8000000 in
/-- ████ FROM THE HEAD OF Wait's LOOP. ████ -/
theorem waitRoundF (H : WgLib P L) (hmay : ¬ may wg) (hgrp : grp wg) (hF2 : ∀ w w', RM L.tWg wg (mrOf wg may grp chs) w w' → F w → F w') (hz : ∀ B b, zone b → b < B → zoneF B b) (hm : ∀ w, F w → ∀ b, mayF w.heap.size b → ¬ zoneF w.heap.size b ∧ ¬ grp b)
    (hM : ∃ mT, ∀ bd B w, F w → w.heap.size = B → Goes P true (ROf L.tWg ⟨.law, 0, wg, bd, gs, grp, mayF B, zoneF B, chs, q⟩) (DM ⟨.law, 0, wg, bd, gs, grp, mayF B, zoneF B, chs, q⟩) (fun g w => g.status = .running ∧ MStop P L.tWg Post (Sc P L.tWg Post N) ⟨.law, 0, wg, bd, gs, grp, mayF B, zoneF B, chs, q⟩ g w) mT
      (G (b₀.at (a₀.put ((ops₀[i₀]?).bind (·.dst)) (.tuple #[])) (.inRegion ops₀ rest₀ :: k₀)) cs) w) :
    ∀ (n bd : Nat), bd < n → n ≤ 1001 → ∀ (g : Goroutine) (w : World), AnchWN L F wg (b₀.at a₀ (.inRegion ops₀ (i₀ :: rest₀) :: k₀)) cs g w →
      Goes P true (ROf L.tWg ⟨.opn false, 1, wg, bd, gs, grp, may, zone, chs, q⟩) (DM ⟨.opn false, 1, wg, bd, gs, grp, may, zone, chs, q⟩) (fun g w => g.status = .running ∧ MStop P L.tWg Post (Sc P L.tWg Post (N + 8 + 2 * n)) ⟨.opn false, 1, wg, bd, gs, grp, may, zone, chs, q⟩ g w) 30 g w := by
  lib_facts
  intro n
  induction n with
  | zero => exact fun bd h => absurd h (Nat.not_lt_zero _)
  | succ n ih =>
    rintro bd hbd hn g w ⟨T, rfl, hT84, t0, hF⟩
    obtain ⟨fu, hfu⟩ : ∃ fu, fu = N + 8 + 2 * n := ⟨_, rfl⟩
    rw [show N + 8 + 2 * (n + 1) = fu + 1 + 1 by omega]
    rw [← hfu] at ih
    obtain ⟨v0, v1, v2, v3, v4, v5, v6, v7, v8, v9, v10, v11, v12, v13, v14, v15, v16, v17, v18, v19, v20, v21, v22, v23, v24, v25, v26, v27, v28, v29, v30, v31, v32, v33, v34, v35, v36, v37, v38, v39, v40, v41, v42, v43, v44, v45, v46, v47, v48, v49, v50, v51, v52, v53, v54, v55, v56, v57, v58, v59, v60, v61, v62, v63, v64, v65, v66, v67, v68, v69, v70, v71, v72, v73, v74, v75, v76, v77, v78, v79, v80, v81, v82, v83, rfl⟩ := array84 T hT84
    simp only [List.getElem?_toArray, List.getElem?_cons_zero, Option.some.injEq] at t0
    subst t0
    have fm : ∀ {w w₁ : World}, F w ∧ WgLive L.tWg wg w → ROf L.tWg ⟨.opn false, 1, wg, bd, gs, grp, may, zone, chs, q⟩ w w₁ → F w₁ ∧ WgLive L.tWg wg w₁ := fun h r => fm_of hF2 (by simp) rfl rfl h r
    refine goesD (D := DC0) dm_of_dc0 ?_
    simp only [L7, body_wait, waitFn, Option.getD_some]
    u_c stepG_block fm hF
    u_c stepG_seq fm hF
    u_reg fm hF
    u_op fm hF
    u_op fm hF
    u_op fm hF
    u_call H.f_uLoad (nm_uLoad L) uLoadFn fm hF
    u_c stepG_seq fm hF
    u_reg fm hF
    u_op fm hF
    u_c stepG_region_end fm hF
    u_c stepG_seq fm hF
    u_reg fm hF
    u_op fm hF
    u_op fm hF
    u_op fm hF
    refine Goes.stop (fun w₁ h₁ => ?_)
    replace hF := fm hF h₁
    clear h₁ fm
    refine ⟨rfl, .w1 rfl rfl fun v hv hw => ?_⟩
    replace hv : v ≤ bd := hv
    rcases Nat.eq_zero_or_pos v with rfl | hvp
    · -- THE LOAD READS 0: THE JOIN IS SEEN
      replace hw : WgAt L.tWg wg w₁ 0 0 := by simpa using hw
      refine ⟨_, stepG_load_atomic (v := 0) rfl rfl (by k_ne) rfl H.f_loadU64 (x_loadU64_n L) (x_loadU64_b L) (x_loadU64_x L) .u64 (x_loadU64_f L) rfl hw.cellSt, fun _ => ?_, fun h => absurd rfl h⟩
      clear hw
      have fm : ∀ {w w₁ : World}, F w ∧ WgLive L.tWg wg w → ROf L.tWg ⟨.fin, 1, wg, bd, gs, grp, may, zone, chs, q⟩ w w₁ → F w₁ ∧ WgLive L.tWg wg w₁ := fun h r => fm_of hF2 (by simp) rfl rfl h r
      refine Sc.up (N := N + 3 + 1) (by omega) ?_
      refine sc_of (n := 50) ?_
      walk_nrm
      u_op fm hF
      u_c stepG_region_end fm hF
      u_c stepG_ret' fm hF
      u_leave1 H.f_uLoad fm hF
      u_op fm hF
      u_c stepG_region_end fm hF
      u_c stepG_seq fm hF
      u_reg fm hF
      u_op fm hF
      u_op fm hF
      u_op fm hF
      u_op fm hF
      u_c stepG_region_end fm hF
      u_c stepG_seq fm hF
      u_reg fm hF
      u_op fm hF
      u_op fm hF
      u_op fm hF
      u_op fm hF
      u_c stepG_region_end fm hF
      u_c stepG_seq fm hF
      u_c stepG_seq fm hF
      u_reg fm hF
      u_op fm hF
      u_op fm hF
      u_c stepG_region_end fm hF
      u_cond true fm hF
      u_c stepG_seq fm hF
      u_cond true fm hF
      u_c stepG_seq fm hF
      u_reg fm hF
      refine Goes.stop (fun w₅ h₅ => ?_)
      replace hF := fm hF h₅
      clear h₅ fm
      refine ⟨rfl, .en _ (.inr rfl) rfl (stepG_mark0 .enable (by simp) rfl rfl (by k_ne) rfl H.f_enable (x_enable_n L) (x_enable_b L) (x_enable_x L) (x_enable_f L)) ?_⟩
      have fm : ∀ {w w₁ : World}, F w ∧ WgLive L.tWg wg w → ROf L.tWg ⟨.fin, 0, wg, bd, gs, grp, may, zone, chs, q⟩ w w₁ → F w₁ ∧ WgLive L.tWg wg w₁ := fun h r => fm_of hF2 (by simp) rfl rfl h r
      refine sc_of (n := 12) ?_
      walk_nrm
      u_c stepG_region_end fm hF
      u_reg fm hF
      u_op fm hF
      u_conv H.underlying_tWgP H.room_tWg (WgLive.cell0 hF.2).choose_spec fm hF
      refine Goes.stop (fun w₆ h₆ => ?_)
      replace hF := fm hF h₆
      clear h₆ fm
      refine ⟨rfl, .acq _ (mayF w₆.heap.size) (zoneF w₆.heap.size) rfl rfl (stepG_markAt .acquire (by simp) rfl rfl (by k_ne) rfl H.f_acquire (x_acquire_n L) (x_acquire_b L) (x_acquire_x L) (x_acquire_f L) (by simp [Act.eval, stA])) (fun b => hz _ b) (hm _ hF.1) ?_⟩
      obtain ⟨B, hB⟩ : ∃ B, w₆.heap.size = B := ⟨_, rfl⟩
      rw [hB]
      replace hF : (F w₆ ∧ WgLive L.tWg wg w₆) ∧ w₆.heap.size = B := ⟨hF, hB⟩
      have fm : ∀ {w w₁ : World}, (F w ∧ WgLive L.tWg wg w) ∧ w.heap.size = B → ROf L.tWg ⟨.law, 0, wg, bd, gs, grp, mayF B, zoneF B, chs, q⟩ w w₁ → (F w₁ ∧ WgLive L.tWg wg w₁) ∧ w₁.heap.size = B := fun h r => ⟨fm_law hF2 rfl h.1 r, by obtain ⟨d, rfl⟩ := r.1 rfl; exact h.2⟩
      refine Sc.up (N := N + 1) (by omega) ?_
      obtain ⟨mT, hT⟩ := hM
      have hT := hT bd B
      refine ⟨40 + mT, goes_join (n := 40) (m := mT) dm_nil (ROf.refl _ _) ?_⟩
      walk_nrm
      u_c stepG_region_end fm hF
      u_c stepG_seq fm hF
      u_c stepG_seq fm hF
      u_reg fm hF
      u_op fm hF
      u_op fm hF
      u_op fm hF
      u_op fm hF
      u_op fm hF
      u_op fm hF
      u_op fm hF
      u_op fm hF
      u_skip fm hF
      u_skip fm hF
      u_op fm hF
      u_c stepG_region_end fm hF
      u_cond false fm hF
      u_c stepG_skip fm hF
      u_c stepG_ret' fm hF
      u_leave0 H.f_wait fm hF
      exact Goes.stop fun w₇ h₇ => hT _ (fm hF h₇).1.1 (fm hF h₇).2
    · -- THE LOAD READS v * 2^32, v > 0
      have hv' : v ≤ 1000 := by omega
      obtain ⟨S, hS⟩ : ∃ S : Int, (v : Int) * KK = S := ⟨_, rfl⟩
      have a1 : S / 4294967296 = (v : Int) := by rw [← hS]; simp only [KK]; omega
      have b1 : bits .and .u64 S 2147483648 = 0 := by rw [← hS]; have := st_flag v 0 (by omega) (by omega); simpa [KK] using this
      have b2 : bits .and .u64 S 2147483647 = 0 := by rw [← hS]; have := st_waiters v 0 (by omega) (by omega); simpa [KK] using this
      have c1 : IntKind.i32.wrap (v : Int) = (v : Int) := by rw [IntKind.wrap_i32]; omega
      have w1 : IntKind.u64.wrap (S + 1) = S + 1 := by rw [IntKind.wrap_u64, ← hS]; simp only [KK]; omega
      have q3 : decide ((v : Int) < 0) = false := decide_eq_false (by omega)
      have q4 : decide (0 < (v : Int)) = true := decide_eq_true (by omega)
      have q5 : ((v : Int) == 0) = false := by simp; omega
      have q6 : decide ((v : Int) = 0) = false := decide_eq_false (by omega)
      rw [hS] at hw
      refine ⟨_, stepG_load_atomic (v := S) rfl rfl (by k_ne) rfl H.f_loadU64 (x_loadU64_n L) (x_loadU64_b L) (x_loadU64_x L) .u64 (x_loadU64_f L) rfl hw.cellSt, fun h0 => absurd h0 (by omega), fun _ => ?_⟩
      clear hw
      have fm : ∀ {w w₁ : World}, F w ∧ WgLive L.tWg wg w → ROf L.tWg ⟨.w2 v, 1, wg, bd, gs, grp, may, zone, chs, q⟩ w w₁ → F w₁ ∧ WgLive L.tWg wg w₁ := fun h r => fm_of hF2 (by simp) rfl rfl h r
      refine sc_of (n := 60) ?_
      walk_nrm
      u_op fm hF
      u_c stepG_region_end fm hF
      u_c stepG_ret' fm hF
      u_leave1 H.f_uLoad fm hF
      u_op fm hF
      u_c stepG_region_end fm hF
      u_c stepG_seq fm hF
      u_reg fm hF
      u_op fm hF
      u_op fm hF
      u_op fm hF
      u_op fm hF
      u_c stepG_region_end fm hF
      u_c stepG_seq fm hF
      u_reg fm hF
      u_op fm hF
      u_op fm hF
      u_op fm hF
      u_op fm hF
      u_c stepG_region_end fm hF
      u_c stepG_seq fm hF
      u_c stepG_seq fm hF
      u_reg fm hF
      u_op fm hF
      u_op fm hF
      u_c stepG_region_end fm hF
      u_cnd false fm hF
      u_c stepG_skip fm hF
      u_c stepG_seq fm hF
      u_reg fm hF
      u_op fm hF
      u_op fm hF
      u_op fm hF
      u_op fm hF
      u_op fm hF
      u_op fm hF
      u_call H.f_uCas (nm_uCas L) uCasFn fm hF
      u_c stepG_seq fm hF
      u_reg fm hF
      u_op fm hF
      u_c stepG_region_end fm hF
      u_c stepG_seq fm hF
      u_reg fm hF
      u_op fm hF
      u_op fm hF
      u_op fm hF
      u_op fm hF
      u_op fm hF
      refine Goes.stop (fun w₂ h₂ => ?_)
      replace hF := fm hF h₂
      clear h₂ fm
      refine ⟨rfl, .w2 v rfl rfl fun v' hv' hw => ⟨fun e => ?_, fun e => ?_⟩⟩
      · -- THE CompareAndSwap HITS: REGISTERED
        subst e
        rw [hS] at hw ⊢
        refine ⟨_, (stepG_cas_hit (v := S) (n := S + 1) rfl rfl (by k_ne) rfl H.f_casU64 (x_casU64_n L) (x_casU64_b L) (x_casU64_x L) .u64 (x_casU64_f L) rfl rfl rfl hw.cellSt (hw.thaw 0)).trans (by rfl), ?_⟩
        replace hF : F (w₂.setCell (stA wg) (.int .u64 (S + 1))) ∧ WgLive L.tWg wg (w₂.setCell (stA wg) (.int .u64 (S + 1))) := ⟨hF2 _ _ (rm_set (mr_wg hmay) rfl _ fun _ => ⟨_, _, hw.setSt _⟩) hF.1, ⟨_, _, hw.setSt _⟩⟩
        clear hw
        have fm : ∀ {w w₁ : World}, F w ∧ WgLive L.tWg wg w → ROf L.tWg ⟨.w3, 1, wg, bd, gs, grp, may, zone, chs, q⟩ w w₁ → F w₁ ∧ WgLive L.tWg wg w₁ := fun h r => fm_of hF2 (by simp) rfl rfl h r
        refine Sc.up (N := N + 6 + 1) (by omega) ?_
        refine sc_join (n := 40) (m := 40) ?_
        walk_nrm
        u_op fm hF
        u_c stepG_region_end fm hF
        u_c stepG_ret' fm hF
        u_leave1 H.f_uCas fm hF
        u_c stepG_region_end fm hF
        u_cond true fm hF
        u_c stepG_seq fm hF
        u_c stepG_seq fm hF
        u_reg fm hF
        u_op fm hF
        u_op fm hF
        u_op fm hF
        u_op fm hF
        u_c stepG_region_end fm hF
        u_cond true fm hF
        u_reg fm hF
        u_op fm hF
        u_op fm hF
        u_op fm hF
        u_conv H.underlying_tPU32 H.room_tU32 (WgLive.cell1 hF.2).choose_spec fm hF
        -- 'race.Write(unsafe.Pointer(&wg.sema))'
        refine Goes.stop (fun w₃ h₃ => ?_)
        replace hF := fm hF h₃
        clear h₃
        refine Goes.step rfl (fun w₄ h₄ => ?_)
        replace hF := fm hF h₄
        clear h₄
        rw [stepG_markAt .write (by simp) rfl rfl (by k_ne) rfl H.f_raceWrite (x_raceWrite_n L) (x_raceWrite_b L) (x_raceWrite_x L) (x_raceWrite_f L) (ad := ⟨wg, 1, none⟩) (by simp [Act.eval] <;> rfl)]
        simp only [goes_go]
        refine ⟨dm_said (.inr rfl) hgrp (live_lt hF.2), ?_⟩
        refine goesD (D := DC0) dm_of_dc0 ?_
        u_c stepG_region_end fm hF
        u_c stepG_seq fm hF
        u_reg fm hF
        u_op fm hF
        u_c stepG_region_end fm hF
        u_c stepG_seq fm hF
        u_c stepG_seq fm hF
        u_reg fm hF
        u_op fm hF
        u_op fm hF
        u_op fm hF
        u_op fm hF
        u_skip fm hF
        u_op fm hF
        u_c stepG_region_end fm hF
        u_cond false fm hF
        u_c stepG_skip fm hF
        u_c stepG_seq fm hF
        u_reg fm hF
        u_op fm hF
        u_op fm hF
        u_op fm hF
        u_op fm hF
        refine Goes.stop (fun w₃ h₃ => ?_)
        refine ⟨rfl, .w3 rfl rfl ⟨rfl, rfl, fun w₄ h₄ ⟨s, hw⟩ => stepG_semacquire_wait rfl rfl rfl H.f_semacquire (x_semacquire_n L) (x_semacquire_b L) (x_semacquire_x L) (x_semacquire_f L) (by simp [Act.eval, smA]) hw.cellSm, fun w₄ h₄ hf => ?_⟩⟩
        replace hF := fm (fm hF h₃) h₄
        clear h₃ h₄ fm
        refine ⟨_, (stepG_semacquire (n := 1) rfl rfl (by k_ne) rfl H.f_semacquire (x_semacquire_n L) (x_semacquire_b L) (x_semacquire_x L) (x_semacquire_f L) (by simp [Act.eval, smA]) hf.cellSm (by k_ne) (hf.thaw 1)).trans (by rfl), ?_⟩
        replace hF : F (w₄.setCell (smA wg) (.int .u32 0)) ∧ WgLive L.tWg wg (w₄.setCell (smA wg) (.int .u32 0)) := ⟨hF2 _ _ (rm_set (mr_wg hmay) rfl _ fun _ => ⟨_, _, hf.setSm 0⟩) hF.1, ⟨_, _, hf.setSm 0⟩⟩
        clear hf
        have fm : ∀ {w w₁ : World}, F w ∧ WgLive L.tWg wg w → ROf L.tWg ⟨.fin, 1, wg, bd, gs, grp, may, zone, chs, q⟩ w w₁ → F w₁ ∧ WgLive L.tWg wg w₁ := fun h r => fm_of hF2 (by simp) rfl rfl h r
        refine Sc.up (N := N + 4 + 1) (by omega) ?_
        refine sc_of (n := 30) ?_
        walk_nrm
        u_c stepG_region_end fm hF
        u_c stepG_seq fm hF
        u_reg fm hF
        u_op fm hF
        u_op fm hF
        u_op fm hF
        u_call H.f_uLoad (nm_uLoad L) uLoadFn fm hF
        u_c stepG_seq fm hF
        u_reg fm hF
        u_op fm hF
        u_c stepG_region_end fm hF
        u_c stepG_seq fm hF
        u_reg fm hF
        u_op fm hF
        u_op fm hF
        u_op fm hF
        refine Goes.stop (fun w₅ h₅ => ?_)
        replace hF := fm hF h₅
        clear h₅ fm
        refine ⟨rfl, .w4 rfl rfl fun hw => ⟨_, stepG_load_atomic (v := 0) rfl rfl (by k_ne) rfl H.f_loadU64 (x_loadU64_n L) (x_loadU64_b L) (x_loadU64_x L) .u64 (x_loadU64_f L) rfl hw.cellSt, ?_⟩⟩
        clear hw
        have fm : ∀ {w w₁ : World}, F w ∧ WgLive L.tWg wg w → ROf L.tWg ⟨.fin, 1, wg, bd, gs, grp, may, zone, chs, q⟩ w w₁ → F w₁ ∧ WgLive L.tWg wg w₁ := fun h r => fm_of hF2 (by simp) rfl rfl h r
        refine sc_of (n := 30) ?_
        walk_nrm
        u_op fm hF
        u_c stepG_region_end fm hF
        u_c stepG_ret' fm hF
        u_leave1 H.f_uLoad fm hF
        u_op fm hF
        u_op fm hF
        u_c stepG_region_end fm hF
        u_c stepG_seq fm hF
        u_cond true fm hF
        u_c stepG_seq fm hF
        u_reg fm hF
        refine Goes.stop (fun w₈ h₈ => ?_)
        replace hF := fm hF h₈
        clear h₈ fm
        refine ⟨rfl, .en _ (.inr rfl) rfl (stepG_mark0 .enable (by simp) rfl rfl (by k_ne) rfl H.f_enable (x_enable_n L) (x_enable_b L) (x_enable_x L) (x_enable_f L)) ?_⟩
        have fm : ∀ {w w₁ : World}, F w ∧ WgLive L.tWg wg w → ROf L.tWg ⟨.fin, 0, wg, bd, gs, grp, may, zone, chs, q⟩ w w₁ → F w₁ ∧ WgLive L.tWg wg w₁ := fun h r => fm_of hF2 (by simp) rfl rfl h r
        refine sc_of (n := 12) ?_
        walk_nrm
        u_c stepG_region_end fm hF
        u_reg fm hF
        u_op fm hF
        u_conv H.underlying_tWgP H.room_tWg (WgLive.cell0 hF.2).choose_spec fm hF
        refine Goes.stop (fun w₆ h₆ => ?_)
        replace hF := fm hF h₆
        clear h₆ fm
        refine ⟨rfl, .acq _ (mayF w₆.heap.size) (zoneF w₆.heap.size) rfl rfl (stepG_markAt .acquire (by simp) rfl rfl (by k_ne) rfl H.f_acquire (x_acquire_n L) (x_acquire_b L) (x_acquire_x L) (x_acquire_f L) (by simp [Act.eval, stA])) (fun b => hz _ b) (hm _ hF.1) ?_⟩
        obtain ⟨B, hB⟩ : ∃ B, w₆.heap.size = B := ⟨_, rfl⟩
        rw [hB]
        replace hF : (F w₆ ∧ WgLive L.tWg wg w₆) ∧ w₆.heap.size = B := ⟨hF, hB⟩
        have fm : ∀ {w w₁ : World}, (F w ∧ WgLive L.tWg wg w) ∧ w.heap.size = B → ROf L.tWg ⟨.law, 0, wg, bd, gs, grp, mayF B, zoneF B, chs, q⟩ w w₁ → (F w₁ ∧ WgLive L.tWg wg w₁) ∧ w₁.heap.size = B := fun h r => ⟨fm_law hF2 rfl h.1 r, by obtain ⟨d, rfl⟩ := r.1 rfl; exact h.2⟩
        refine Sc.up (N := N + 1) (by omega) ?_
        obtain ⟨mT, hT⟩ := hM
        have hT := hT bd B
        refine ⟨40 + mT, goes_join (n := 40) (m := mT) dm_nil (ROf.refl _ _) ?_⟩
        walk_nrm
        u_c stepG_region_end fm hF
        u_c stepG_seq fm hF
        u_c stepG_seq fm hF
        u_reg fm hF
        u_op fm hF
        u_c stepG_region_end fm hF
        u_cond false fm hF
        u_c stepG_skip fm hF
        u_c stepG_ret' fm hF
        u_leave0 H.f_wait fm hF
        exact Goes.stop fun w₇ h₇ => hT _ (fm hF h₇).1.1 (fm hF h₇).2
      · -- IT MISSES: BACK TO THE LOOP's HEAD
        refine ⟨_, stepG_cas_miss (v := (v' : Int) * KK) (old := S) (n := S + 1) rfl rfl (by k_ne) rfl H.f_casU64 (x_casU64_n L) (x_casU64_b L) (x_casU64_x L) .u64 (x_casU64_f L) rfl rfl rfl hw.cellSt (hw.thaw 0) (by rw [← hS]; simp only [KK]; omega), ?_⟩
        clear hw
        have fm : ∀ {w w₁ : World}, F w ∧ WgLive L.tWg wg w → ROf L.tWg ⟨.opn false, 1, wg, (v - 1), gs, grp, may, zone, chs, q⟩ w w₁ → F w₁ ∧ WgLive L.tWg wg w₁ := fun h r => fm_of hF2 (by simp) rfl rfl h r
        refine Sc.up (N := fu + 1) (by omega) ?_
        refine sc_join (n := 20) (m := 30) ?_
        walk_nrm
        u_op fm hF
        u_c stepG_region_end fm hF
        u_c stepG_ret' fm hF
        u_leave1 H.f_uCas fm hF
        u_c stepG_region_end fm hF
        u_cond false fm hF
        u_c stepG_skip fm hF
        u_c stepG_inBlock fm hF
        u_c stepG_inLoop fm hF
        refine Goes.stop (fun w₃ h₃ => ?_)
        replace hF := fm hF h₃
        exact ih (v - 1) (by omega) (by omega) _ _ ⟨_, rfl, by simp, by simp, hF⟩

set_option maxRecDepth 100000 in
set_option maxHeartbeats 8000000 in
/-- ████ Wait. ████ -/
theorem waitFarm {bd : Nat} (H : WgLib P L) (hbd : bd ≤ 1000) (hmay : ¬ may wg) (hgrp : grp wg) (hF2 : ∀ w w', RM L.tWg wg (mrOf wg may grp chs) w w' → F w → F w') (hz : ∀ B b, zone b → b < B → zoneF B b) (hm : ∀ w, F w → ∀ b, mayF w.heap.size b → ¬ zoneF w.heap.size b ∧ ¬ grp b)
    (hM : ∃ mT, ∀ bd B w, F w → w.heap.size = B → Goes P true (ROf L.tWg ⟨.law, 0, wg, bd, gs, grp, mayF B, zoneF B, chs, q⟩) (DM ⟨.law, 0, wg, bd, gs, grp, mayF B, zoneF B, chs, q⟩) (fun g w => g.status = .running ∧ MStop P L.tWg Post (Sc P L.tWg Post N) ⟨.law, 0, wg, bd, gs, grp, mayF B, zoneF B, chs, q⟩ g w) mT
      (G (b₀.at (a₀.put ((ops₀[i₀]?).bind (·.dst)) (.tuple #[])) (.inRegion ops₀ rest₀ :: k₀)) cs) w)
    (w : World) (hF : F w ∧ WgLive L.tWg wg w) :
    Goes P true (ROf L.tWg ⟨.opn false, 0, wg, bd, gs, grp, may, zone, chs, q⟩) (DM ⟨.opn false, 0, wg, bd, gs, grp, may, zone, chs, q⟩) (fun g w => g.status = .running ∧ MStop P L.tWg Post (Sc P L.tWg Post (N + 8 + 2 * (bd + 1) + 1)) ⟨.opn false, 0, wg, bd, gs, grp, may, zone, chs, q⟩ g w) 3
      (G ((base L.wait).at ⟨#[.pointer (some ⟨wg, 0, none⟩), undef, undef, undef, undef, undef, undef, undef, undef, undef, undef, undef, undef, undef, undef, undef, undef, undef, undef, undef, undef, undef, undef, undef, undef, undef, undef, undef, undef, undef, undef, undef, undef, undef, undef, undef, undef, undef, undef, undef, undef, undef, undef, undef, undef, undef, undef, undef, undef, undef, undef, undef, undef, undef, undef, undef, undef, undef, undef, undef, undef, undef, undef, undef, undef, undef, undef, undef, undef, undef, undef, undef, undef, undef, undef, undef, undef, undef, undef, undef, undef, undef, undef, undef], []⟩ [.code (body_wait L)]) (b₀.at a₀ (.inRegion ops₀ (i₀ :: rest₀) :: k₀) :: cs)) w := by
  lib_facts
  have fm : ∀ {w w₁ : World}, F w ∧ WgLive L.tWg wg w → ROf L.tWg ⟨.opn false, 0, wg, bd, gs, grp, may, zone, chs, q⟩ w w₁ → F w₁ ∧ WgLive L.tWg wg w₁ := fun h r => fm_of hF2 (by simp) rfl rfl h r
  refine goesD dm_of_dc0 (n := 3) ?_
  have ih := waitRoundF (N := N) (gs := gs) (chs := chs) (q := q) (b₀ := b₀) (a₀ := a₀) (ops₀ := ops₀) (i₀ := i₀) (rest₀ := rest₀) (k₀ := k₀) (cs := cs) H hmay hgrp hF2 hz hm hM (bd + 1) bd (Nat.lt_succ_self _) (by omega)
  simp only [body_wait, waitFn, Option.getD_some]
  u_c stepG_seq fm hF
  u_cond true fm hF
  u_reg fm hF
  refine Goes.stop (fun w₁ h₁ => ?_)
  replace hF := fm hF h₁
  clear h₁ fm
  refine ⟨rfl, .dis _ rfl rfl (stepG_mark0 .disable (by simp) rfl rfl (by k_ne) rfl H.f_disable (x_disable_n L) (x_disable_b L) (x_disable_x L) (x_disable_f L)) ?_⟩
  have fm : ∀ {w w₁ : World}, F w ∧ WgLive L.tWg wg w → ROf L.tWg ⟨.opn false, 1, wg, bd, gs, grp, may, zone, chs, q⟩ w w₁ → F w₁ ∧ WgLive L.tWg wg w₁ := fun h r => fm_of hF2 (by simp) rfl rfl h r
  refine sc_join (n := 3) (m := 30) ?_
  walk_nrm
  u_c stepG_region_end fm hF
  u_c stepG_block fm hF
  u_c stepG_loop fm hF
  refine Goes.stop (fun w₃ h₃ => ?_)
  replace hF := fm hF h₃
  exact ih _ _ ⟨_, rfl, by simp, by simp, hF⟩
end

end Go.Proofs.Ytiodikflmijhkaa.Farm
/- The library's WaitGroup as it lies in this program; the cells that a worker calls its own. -/
namespace Go.Proofs.Ytiodikflmijhkaa
abbrev lnk : Go.Conc.Lib.WgLink := { add := 20, done := 22, wait := 24, relMerge := 26, disable := 27, enable := 28, inBubble := 29, associate := 30, fatal := 31, uOr := 32, uAdd := 33, raceRead := 34, uLoad := 35, uStore := 36, disassociate := 37, semrelease := 38, acquire := 40, isAssociated := 41, uCas := 42, raceWrite := 43, semacquire := 44, orU64 := 49, addU64 := 50, loadU64 := 51, storeU64 := 52, casU64 := 53, tWgP := 62, tUP := 64, tAssoc := 65, tWg := 55, tAU := 53, tU64 := 51, tUint := 69, tU32 := 41, tPU32 := 70, tPAU := 82, tPU64 := 84, tNoCopy := 48, tANoCopy := 49, tAlign64 := 50 }
theorem wgL : Go.Conc.Lib.WgLib Try.prog lnk :=
  ⟨Try.func20, Try.func22, Try.func24, Try.func26, Try.func27, Try.func28, Try.func29, Try.func30, Try.func31, Try.func32, Try.func33, Try.func34, Try.func35, Try.func36, Try.func37, Try.func38, Try.func40, Try.func41, Try.func42, Try.func43, Try.func44, Try.func49, Try.func50, Try.func51, Try.func52, Try.func53, Try.underlying62, Try.runUnderlying62, Try.sizeOf62, Try.isAgg62, Try.zeroValue62, Try.underlying64, Try.runUnderlying64, Try.sizeOf64, Try.isAgg64, Try.zeroValue64, Try.underlying65, Try.runUnderlying65, Try.sizeOf65, Try.isAgg65, Try.zeroValue65, Try.underlying55, Try.runUnderlying55, Try.sizeOf55, Try.isAgg55, Try.zeroValue55, Try.underlying53, Try.runUnderlying53, Try.sizeOf53, Try.isAgg53, Try.zeroValue53, Try.underlying51, Try.runUnderlying51, Try.sizeOf51, Try.isAgg51, Try.zeroValue51, Try.underlying69, Try.runUnderlying69, Try.sizeOf69, Try.isAgg69, Try.zeroValue69, Try.underlying41, Try.runUnderlying41, Try.sizeOf41, Try.isAgg41, Try.zeroValue41, Try.underlying70, Try.runUnderlying70, Try.sizeOf70, Try.isAgg70, Try.zeroValue70, Try.underlying82, Try.runUnderlying82, Try.sizeOf82, Try.isAgg82, Try.zeroValue82, Try.underlying84, Try.runUnderlying84, Try.sizeOf84, Try.isAgg84, Try.zeroValue84, Try.underlying0, Try.runUnderlying0, Try.sizeOf0, Try.isAgg0, Try.zeroValue0, Try.underlying3, Try.runUnderlying3, Try.sizeOf3, Try.isAgg3, Try.zeroValue3, Try.underlying4, Try.runUnderlying4, Try.sizeOf4, Try.isAgg4, Try.zeroValue4, Try.underlying9, Try.runUnderlying9, Try.sizeOf9, Try.isAgg9, Try.zeroValue9, Try.underlying20, Try.runUnderlying20, Try.sizeOf20, Try.isAgg20, Try.zeroValue20, Try.underlying21, Try.runUnderlying21, Try.sizeOf21, Try.isAgg21, Try.zeroValue21, (by kernel_rfl), (by kernel_rfl)⟩
open Go.Conc Go.ConcR

/-- A worker's own cells: those of its copy of the vector. -/
instance payV : Payload := ⟨30⟩
end Go.Proofs.Ytiodikflmijhkaa
/- A worker of the program's: sendRow: the drawn region; six values; the close. -/
set_option linter.unusedSectionVars false
set_option linter.unusedVariables false
set_option linter.unusedSimpArgs false
namespace Go.Proofs.Ytiodikflmijhkaa
open Go.Conc Go.ConcN Go.RowKit Go.Conc.Lib Go.ConcR.Gen Go.ConcN.Gen Farm
open Go.ConcR (KK wgBlock WgAt stA smA rd wr mk Payload Aside2 DC0)

theorem array26 (T : Array Value) (h : T.size = 26) : ∃ v0 v1 v2 v3 v4 v5 v6 v7 v8 v9 v10 v11 v12 v13 v14 v15 v16 v17 v18 v19 v20 v21 v22 v23 v24 v25 : Value, T = #[v0, v1, v2, v3, v4, v5, v6, v7, v8, v9, v10, v11, v12, v13, v14, v15, v16, v17, v18, v19, v20, v21, v22, v23, v24, v25] := by
  obtain ⟨l⟩ := T
  match l, h with
  | [v0, v1, v2, v3, v4, v5, v6, v7, v8, v9, v10, v11, v12, v13, v14, v15, v16, v17, v18, v19, v20, v21, v22, v23, v24, v25], _ => exact ⟨v0, v1, v2, v3, v4, v5, v6, v7, v8, v9, v10, v11, v12, v13, v14, v15, v16, v17, v18, v19, v20, v21, v22, v23, v24, v25, rfl⟩

section
variable {S : Nat → Prop} {ty : TypeId} {wg : Nat} {w w₁ : World}
theorem dk_nil (w : World) : DK S w w #[] := ⟨⟨w.drawn, rfl⟩, by simp⟩
theorem dk_none {es : Array Event} (h : ∀ e ∈ es, False) : DK S w w es := ⟨⟨w.drawn, rfl⟩, fun e he => (h e he).elim⟩
theorem dk_read {a : Addr} {sy : Bool} (hS : S a.block) (hB : a.block < w.heap.size) {es : Array Event} (h : ∀ e ∈ es, e = ⟨.cell a, false, sy⟩) : DK S w w es := by
  refine ⟨⟨w.drawn, rfl⟩, fun e he => ?_⟩
  rw [h e he]
  refine ⟨fun x hx => ?_, by simp, by simp, by simp, hB⟩
  have e0 : MemAct.ofEvent ⟨.cell a, false, sy⟩ = .access ⟨.cell a, false, sy⟩ := by cases sy <;> rfl
  rw [e0] at hx
  simp only [MemAct.touch?, Option.some.injEq] at hx
  subst hx
  exact ⟨a, rfl, hS, rfl⟩
end

/-- What the worker knows: its copies of the two lists, in blocks of its own. -/
structure KB (S : Nat → Prop) (ty : TypeId) (wg Cv Cp : Nat) (Lv Lp : List Int) (w : World) : Prop where
  v : w.heap[Cv]? = some (.cells (VL Lv) 30)
  p : w.heap[Cp]? = some (.cells (VL Lp) 33)
  live : WgLive ty wg w
  sv : S Cv
  sp : S Cp
theorem kb_rely {S : Nat → Prop} {ty : TypeId} {wg Cv Cp : Nat} {Lv Lp : List Int} {w w₁ : World} (h : KB S ty wg Cv Cp Lv Lp w) (r : RK ty wg S w w₁) : KB S ty wg Cv Cp Lv Lp w₁ :=
  ⟨(r.keep _ h.sv).trans h.v, (r.keep _ h.sp).trans h.p, r.live h.live, h.sv, h.sp⟩
theorem KB.ltv {S : Nat → Prop} {ty : TypeId} {wg Cv Cp : Nat} {Lv Lp : List Int} {w : World} (h : KB S ty wg Cv Cp Lv Lp w) : Cv < w.heap.size := (Array.getElem?_eq_some_iff.1 h.v).1
theorem KB.ltp {S : Nat → Prop} {ty : TypeId} {wg Cv Cp : Nat} {Lv Lp : List Int} {w : World} (h : KB S ty wg Cv Cp Lv Lp w) : Cp < w.heap.size := (Array.getElem?_eq_some_iff.1 h.p).1

theorem idx_v (C : Nat) (k : Nat) (hk : k < 24) (W : World) : (Instr.indexAt 30 (.pointer (some ⟨C, 0, none⟩)) (.int .i64 (k : Int))).run Try.prog W = .ok (.pointer (some ((⟨C, 0, none⟩ : Addr).add k))) W := by
  match k, hk with
  | 0, _ => exact (show _ = _ by kernel_rfl)
  | 1, _ => exact (show _ = _ by kernel_rfl)
  | 2, _ => exact (show _ = _ by kernel_rfl)
  | 3, _ => exact (show _ = _ by kernel_rfl)
  | 4, _ => exact (show _ = _ by kernel_rfl)
  | 5, _ => exact (show _ = _ by kernel_rfl)
  | 6, _ => exact (show _ = _ by kernel_rfl)
  | 7, _ => exact (show _ = _ by kernel_rfl)
  | 8, _ => exact (show _ = _ by kernel_rfl)
  | 9, _ => exact (show _ = _ by kernel_rfl)
  | 10, _ => exact (show _ = _ by kernel_rfl)
  | 11, _ => exact (show _ = _ by kernel_rfl)
  | 12, _ => exact (show _ = _ by kernel_rfl)
  | 13, _ => exact (show _ = _ by kernel_rfl)
  | 14, _ => exact (show _ = _ by kernel_rfl)
  | 15, _ => exact (show _ = _ by kernel_rfl)
  | 16, _ => exact (show _ = _ by kernel_rfl)
  | 17, _ => exact (show _ = _ by kernel_rfl)
  | 18, _ => exact (show _ = _ by kernel_rfl)
  | 19, _ => exact (show _ = _ by kernel_rfl)
  | 20, _ => exact (show _ = _ by kernel_rfl)
  | 21, _ => exact (show _ = _ by kernel_rfl)
  | 22, _ => exact (show _ = _ by kernel_rfl)
  | 23, _ => exact (show _ = _ by kernel_rfl)
  | n + 24, h => exact absurd h (by omega)
theorem idx_p (C : Nat) (k : Nat) (hk : k < 24) (W : World) : (Instr.indexAt 33 (.pointer (some ⟨C, 0, none⟩)) (.int .i64 (k : Int))).run Try.prog W = .ok (.pointer (some ((⟨C, 0, none⟩ : Addr).add k))) W := by
  match k, hk with
  | 0, _ => exact (show _ = _ by kernel_rfl)
  | 1, _ => exact (show _ = _ by kernel_rfl)
  | 2, _ => exact (show _ = _ by kernel_rfl)
  | 3, _ => exact (show _ = _ by kernel_rfl)
  | 4, _ => exact (show _ = _ by kernel_rfl)
  | 5, _ => exact (show _ = _ by kernel_rfl)
  | 6, _ => exact (show _ = _ by kernel_rfl)
  | 7, _ => exact (show _ = _ by kernel_rfl)
  | 8, _ => exact (show _ = _ by kernel_rfl)
  | 9, _ => exact (show _ = _ by kernel_rfl)
  | 10, _ => exact (show _ = _ by kernel_rfl)
  | 11, _ => exact (show _ = _ by kernel_rfl)
  | 12, _ => exact (show _ = _ by kernel_rfl)
  | 13, _ => exact (show _ = _ by kernel_rfl)
  | 14, _ => exact (show _ = _ by kernel_rfl)
  | 15, _ => exact (show _ = _ by kernel_rfl)
  | 16, _ => exact (show _ = _ by kernel_rfl)
  | 17, _ => exact (show _ = _ by kernel_rfl)
  | 18, _ => exact (show _ = _ by kernel_rfl)
  | 19, _ => exact (show _ = _ by kernel_rfl)
  | 20, _ => exact (show _ = _ by kernel_rfl)
  | 21, _ => exact (show _ = _ by kernel_rfl)
  | 22, _ => exact (show _ = _ by kernel_rfl)
  | 23, _ => exact (show _ = _ by kernel_rfl)
  | n + 24, h => exact absurd h (by omega)
theorem idx_v_ev (C : Nat) (k : Nat) (hk : k < 24) (W : World) (es : Array Event) : (Instr.indexAt 30 (.pointer (some ⟨C, 0, none⟩)) (.int .i64 (k : Int))).events Try.prog W es = es := by
  match k, hk with
  | 0, _ => exact (show _ = _ by kernel_rfl)
  | 1, _ => exact (show _ = _ by kernel_rfl)
  | 2, _ => exact (show _ = _ by kernel_rfl)
  | 3, _ => exact (show _ = _ by kernel_rfl)
  | 4, _ => exact (show _ = _ by kernel_rfl)
  | 5, _ => exact (show _ = _ by kernel_rfl)
  | 6, _ => exact (show _ = _ by kernel_rfl)
  | 7, _ => exact (show _ = _ by kernel_rfl)
  | 8, _ => exact (show _ = _ by kernel_rfl)
  | 9, _ => exact (show _ = _ by kernel_rfl)
  | 10, _ => exact (show _ = _ by kernel_rfl)
  | 11, _ => exact (show _ = _ by kernel_rfl)
  | 12, _ => exact (show _ = _ by kernel_rfl)
  | 13, _ => exact (show _ = _ by kernel_rfl)
  | 14, _ => exact (show _ = _ by kernel_rfl)
  | 15, _ => exact (show _ = _ by kernel_rfl)
  | 16, _ => exact (show _ = _ by kernel_rfl)
  | 17, _ => exact (show _ = _ by kernel_rfl)
  | 18, _ => exact (show _ = _ by kernel_rfl)
  | 19, _ => exact (show _ = _ by kernel_rfl)
  | 20, _ => exact (show _ = _ by kernel_rfl)
  | 21, _ => exact (show _ = _ by kernel_rfl)
  | 22, _ => exact (show _ = _ by kernel_rfl)
  | 23, _ => exact (show _ = _ by kernel_rfl)
  | n + 24, h => exact absurd h (by omega)
theorem idx_p_ev (C : Nat) (k : Nat) (hk : k < 24) (W : World) (es : Array Event) : (Instr.indexAt 33 (.pointer (some ⟨C, 0, none⟩)) (.int .i64 (k : Int))).events Try.prog W es = es := by
  match k, hk with
  | 0, _ => exact (show _ = _ by kernel_rfl)
  | 1, _ => exact (show _ = _ by kernel_rfl)
  | 2, _ => exact (show _ = _ by kernel_rfl)
  | 3, _ => exact (show _ = _ by kernel_rfl)
  | 4, _ => exact (show _ = _ by kernel_rfl)
  | 5, _ => exact (show _ = _ by kernel_rfl)
  | 6, _ => exact (show _ = _ by kernel_rfl)
  | 7, _ => exact (show _ = _ by kernel_rfl)
  | 8, _ => exact (show _ = _ by kernel_rfl)
  | 9, _ => exact (show _ = _ by kernel_rfl)
  | 10, _ => exact (show _ = _ by kernel_rfl)
  | 11, _ => exact (show _ = _ by kernel_rfl)
  | 12, _ => exact (show _ = _ by kernel_rfl)
  | 13, _ => exact (show _ = _ by kernel_rfl)
  | 14, _ => exact (show _ = _ by kernel_rfl)
  | 15, _ => exact (show _ = _ by kernel_rfl)
  | 16, _ => exact (show _ = _ by kernel_rfl)
  | 17, _ => exact (show _ = _ by kernel_rfl)
  | 18, _ => exact (show _ = _ by kernel_rfl)
  | 19, _ => exact (show _ = _ by kernel_rfl)
  | 20, _ => exact (show _ = _ by kernel_rfl)
  | 21, _ => exact (show _ = _ by kernel_rfl)
  | 22, _ => exact (show _ = _ by kernel_rfl)
  | 23, _ => exact (show _ = _ by kernel_rfl)
  | n + 24, h => exact absurd h (by omega)
theorem bld (x y : Int) (W : World) : (Instr.build 59 #[(0, .int .i64 x), (1, .int .i64 y)]).run Try.prog W = .ok (.agg #[.int .i64 x, .int .i64 y]) W := by kernel_rfl
theorem bld_ev (x y : Int) (W : World) (es : Array Event) : (Instr.build 59 #[(0, .int .i64 x), (1, .int .i64 y)]).events Try.prog W es = es := by kernel_rfl
theorem add0 (C k : Nat) : ((⟨C, 0, none⟩ : Addr).add k) = ⟨C, k, none⟩ := by
  unfold Addr.add
  split
  · subst_vars; rfl
  · simp

noncomputable def bodyS : Code := Try.f23.body.getD .skip
noncomputable def LS : Code := match bodyS with | .seq _ (.seq (.seq _ (.block _ (.loop c))) _) => c | _ => .skip
noncomputable def RS : Code := match bodyS with | .seq _ (.seq _ r) => r | _ => .skip
noncomputable def opsS : Array Oper := match LS with | .seq _ (.seq _ (.seq (.block _ (.seq _ (.seq _ (.region _ ops _)))) _)) => ops | _ => #[]
noncomputable def R6 : Code := match LS with | .seq _ (.seq _ (.seq _ r)) => r | _ => .skip
abbrev bS : Frame := base 23

/-! ### the drawn region: whichever operation comes up -/
/-- What the temporaries hold once the operations of 'ls' are done. -/
structure Dr (Cv Cp c : Nat) (row : Int) (k pl : Nat) (x y : Int) (ls : Array Bool) (T : Array Value) : Prop where
  size : T.size = 26
  t1 : T[1]? = some (.int .i64 row)
  t3 : T[3]? = some (.chan (some c))
  t4 : T[4]? = some (.pointer (some ⟨Cv, 0, none⟩))
  t6 : T[6]? = some (.pointer (some ⟨Cp, 0, none⟩))
  t9 : T[9]? = some (.int .i64 pl)
  t10 : T[10]? = some (.int .i64 k)
  d0 : ls.getD 0 false = true → T[16]? = some (.chan (some c))
  d1 : ls.getD 1 false = true → T[17]? = some (.int .i64 pl)
  d2 : ls.getD 2 false = true → T[18]? = some (.pointer (some ⟨Cv, pl, none⟩))
  d3 : ls.getD 3 false = true → T[19]? = some (.int .i64 x)
  d4 : ls.getD 4 false = true → T[20]? = some (.int .i64 pl)
  d5 : ls.getD 5 false = true → T[21]? = some (.pointer (some ⟨Cp, pl, none⟩))
  d6 : ls.getD 6 false = true → T[22]? = some (.int .i64 y)
  d7 : ls.getD 7 false = true → T[23]? = some (.agg #[.int .i64 x, .int .i64 y])
  c2 : ls.getD 2 false = true → ls.getD 1 false = true
  c3 : ls.getD 3 false = true → ls.getD 2 false = true
  c5 : ls.getD 5 false = true → ls.getD 4 false = true
  c6 : ls.getD 6 false = true → ls.getD 5 false = true
  c7 : ls.getD 7 false = true → ls.getD 3 false = true ∧ ls.getD 6 false = true
theorem array9b (T : Array Bool) (h : T.size = 9) : ∃ l0 l1 l2 l3 l4 l5 l6 l7 l8 : Bool, T = #[l0, l1, l2, l3, l4, l5, l6, l7, l8] := by
  obtain ⟨l⟩ := T
  match l, h with
  | [l0, l1, l2, l3, l4, l5, l6, l7, l8], _ => exact ⟨l0, l1, l2, l3, l4, l5, l6, l7, l8, rfl⟩
theorem go_acc (m : Region.Mode) (ops : Array Oper) : ∀ (fuel t : Nat) (ls : Array Bool) (acc : List Nat), Region.linearise.go m ops fuel t ls acc = acc.reverse ++ Region.linearise.go m ops fuel t ls []
  | 0, _, _, acc => by simp [Region.linearise.go]
  | fuel + 1, t, ls, acc => by
    simp only [Region.linearise.go]
    split
    · rw [go_acc m ops fuel _ _ (_ :: acc), go_acc m ops fuel _ _ [_]]; simp
    · simp
/-- Which operations are ready. -/
def rdy (m : Region.Mode) (ops : Array Oper) (ls : Array Bool) : List Nat := (List.range ops.size).filter fun i => !ls.getD i true && ((ops[i]?).map (·.after.all fun e => !Region.binds m e || ls.getD e.on false)).getD false
theorem go_next (m : Region.Mode) (ops : Array Oper) (fuel t : Nat) (ls : Array Bool) (hne : rdy m ops ls ≠ []) :
    ∃ i t', i ∈ rdy m ops ls ∧ Region.linearise.go m ops (fuel + 1) t ls [] = i :: Region.linearise.go m ops fuel t' (ls.setIfInBounds i true) [] := by
  have hl : 0 < (rdy m ops ls).length := List.length_pos_iff.2 hne
  have hlt := Nat.mod_lt t hl
  refine ⟨(rdy m ops ls)[t % (rdy m ops ls).length], t / (rdy m ops ls).length, List.getElem_mem _, ?_⟩
  have e : (rdy m ops ls)[t % (rdy m ops ls).length]? = some (rdy m ops ls)[t % (rdy m ops ls).length] := List.getElem?_eq_getElem hlt
  rw [Region.linearise.go]
  show (match (rdy m ops ls)[t % (rdy m ops ls).length]? with | some i => _ | none => _ : List Nat) = _
  rw [e]
  exact go_acc m ops fuel _ _ [_]
theorem go_done (m : Region.Mode) (ops : Array Oper) (fuel t : Nat) (ls : Array Bool) (h : rdy m ops ls = []) : Region.linearise.go m ops fuel t ls [] = [] := by
  cases fuel with
  | zero => rfl
  | succ fuel =>
    rw [Region.linearise.go]
    show (match (rdy m ops ls)[t % (rdy m ops ls).length]? with | some i => _ | none => _ : List Nat) = _
    rw [h]
    rfl

theorem rdy_S (m : Region.Mode) {l0 l1 l2 l3 l4 l5 l6 l7 l8 : Bool} : ∀ i ∈ rdy m opsS #[l0, l1, l2, l3, l4, l5, l6, l7, l8], (i = 0 ∧ l0 = false) ∨ (i = 1 ∧ l1 = false) ∨ (i = 2 ∧ l2 = false ∧ l1 = true) ∨ (i = 3 ∧ l3 = false ∧ l2 = true) ∨ (i = 4 ∧ l4 = false) ∨ (i = 5 ∧ l5 = false ∧ l4 = true) ∨ (i = 6 ∧ l6 = false ∧ l5 = true) ∨ (i = 7 ∧ l7 = false ∧ l3 = true ∧ l6 = true) ∨ (i = 8 ∧ l8 = false ∧ l0 = true ∧ l7 = true) := by
  intro i hi
  simp only [rdy, List.mem_filter, List.mem_range] at hi
  obtain ⟨h1, h2⟩ := hi
  have h9 : i < 9 := h1
  match i, h9 with
  | 0, _ => simp [opsS, LS, bodyS, Try.f23, Region.binds] at h2; simp [h2]
  | 1, _ => simp [opsS, LS, bodyS, Try.f23, Region.binds] at h2; simp [h2]
  | 2, _ => simp [opsS, LS, bodyS, Try.f23, Region.binds] at h2; simp [h2]
  | 3, _ => simp [opsS, LS, bodyS, Try.f23, Region.binds] at h2; simp [h2]
  | 4, _ => simp [opsS, LS, bodyS, Try.f23, Region.binds] at h2; simp [h2]
  | 5, _ => simp [opsS, LS, bodyS, Try.f23, Region.binds] at h2; simp [h2]
  | 6, _ => simp [opsS, LS, bodyS, Try.f23, Region.binds] at h2; simp [h2]
  | 7, _ => simp [opsS, LS, bodyS, Try.f23, Region.binds] at h2; simp [h2]
  | 8, _ => simp [opsS, LS, bodyS, Try.f23, Region.binds] at h2; simp [h2]
  | n + 9, h => exact absurd h (by omega)
theorem rdy_ne (m : Region.Mode) {l0 l1 l2 l3 l4 l5 l6 l7 l8 : Bool} (c2 : l2 = true → l1 = true) (c3 : l3 = true → l2 = true) (c5 : l5 = true → l4 = true) (c6 : l6 = true → l5 = true) (c7 : l7 = true → l3 = true ∧ l6 = true) (h8 : l8 = false) : rdy m opsS #[l0, l1, l2, l3, l4, l5, l6, l7, l8] ≠ [] := by
  have key : ∀ i, i < 9 → ((!((#[l0, l1, l2, l3, l4, l5, l6, l7, l8] : Array Bool).getD i true) && ((opsS[i]?).map (·.after.all fun e => !Region.binds m e || (#[l0, l1, l2, l3, l4, l5, l6, l7, l8] : Array Bool).getD e.on false)).getD false) = true) → rdy m opsS #[l0, l1, l2, l3, l4, l5, l6, l7, l8] ≠ [] := fun i hi h e => by
    have : i ∈ rdy m opsS #[l0, l1, l2, l3, l4, l5, l6, l7, l8] := List.mem_filter.2 ⟨List.mem_range.2 hi, h⟩
    rw [e] at this; cases this
  by_cases e0 : l0 = true
  rotate_left
  · have f0 : l0 = false := by simpa using e0
    exact key 0 (by omega) (by simp [opsS, LS, bodyS, Try.f23, Region.binds, *])
  by_cases e1 : l1 = true
  rotate_left
  · have f1 : l1 = false := by simpa using e1
    exact key 1 (by omega) (by simp [opsS, LS, bodyS, Try.f23, Region.binds, *])
  by_cases e2 : l2 = true
  rotate_left
  · have f2 : l2 = false := by simpa using e2
    exact key 2 (by omega) (by simp [opsS, LS, bodyS, Try.f23, Region.binds, *])
  by_cases e3 : l3 = true
  rotate_left
  · have f3 : l3 = false := by simpa using e3
    exact key 3 (by omega) (by simp [opsS, LS, bodyS, Try.f23, Region.binds, *])
  by_cases e4 : l4 = true
  rotate_left
  · have f4 : l4 = false := by simpa using e4
    exact key 4 (by omega) (by simp [opsS, LS, bodyS, Try.f23, Region.binds, *])
  by_cases e5 : l5 = true
  rotate_left
  · have f5 : l5 = false := by simpa using e5
    exact key 5 (by omega) (by simp [opsS, LS, bodyS, Try.f23, Region.binds, *])
  by_cases e6 : l6 = true
  rotate_left
  · have f6 : l6 = false := by simpa using e6
    exact key 6 (by omega) (by simp [opsS, LS, bodyS, Try.f23, Region.binds, *])
  by_cases e7 : l7 = true
  rotate_left
  · have f7 : l7 = false := by simpa using e7
    exact key 7 (by omega) (by simp [opsS, LS, bodyS, Try.f23, Region.binds, *])
  exact key 8 (by omega) (by simp [opsS, LS, bodyS, Try.f23, Region.binds, *])

theorem evalT {T : Array Value} {ds : List Deferred} {t : Nat} {v : Value} (h : T[t]? = some v) : (⟨T, ds⟩ : Act).eval (.tmp t) = v := by
  show T.getD t undef = v
  rw [Array.getD_eq_getD_getElem?, h]; rfl
theorem setT {T : Array Value} {d t : Nat} {v : Value} (hd : d < T.size) : (T.setIfInBounds d v)[t]? = if d = t then some v else T[t]? := by
  rw [Array.getElem?_setIfInBounds]
  simp only [hd, if_true]

section
variable {S : Nat → Prop} {ty : TypeId} {wg Cv Cp c : Nat} {Lv Lp : List Int} {row : Int} {k pl : Nat} {x y : Int} {kk : List Item} {cs : List Frame} {T : Array Value} {w : World}

theorem dr_step {i d n : Nat} {op : Op} {v : Value} {rest : List Nat} {Stop : Goroutine → World → Prop} (ho : opsS[i]?.map (fun o => (o.op, o.dst, o.guard)) = some (op, some d, none))
    (hr : ∀ w₁ o, o.op = op → RK ty wg S w w₁ → (execOp (⟨T, []⟩ : Act).eval o).run Try.prog w₁ = .ok (.value v) w₁ ∧ DK S w₁ w₁ (listed Try.prog bS.fn ⟨T, []⟩ o w₁))
    (hn : ∀ w₁, RK ty wg S w w₁ → Goes Try.prog false (RK ty wg S) (DK S) Stop n (G (bS.at ⟨T.setIfInBounds d v, []⟩ (.inRegion opsS rest :: kk)) cs) w₁) :
    Goes Try.prog false (RK ty wg S) (DK S) Stop (n + 1) (G (bS.at ⟨T, []⟩ (.inRegion opsS (i :: rest) :: kk)) cs) w := by
  obtain ⟨o, ho1, ho2⟩ := Option.map_eq_some_iff.1 ho
  simp only [Prod.mk.injEq] at ho2
  obtain ⟨e1, e2, e3⟩ := ho2
  refine Goes.step rfl fun w₁ h₁ => ?_
  have hw : Region.wanted o (yielded opsS (⟨T, []⟩ : Act).tmps) = true := by unfold Region.wanted; rw [e3]
  rw [stepG_value ho1 hw (by k_ne) (hr w₁ o e1 h₁).1]
  simp only [goes_go, Act.put, e2]
  exact ⟨(hr w₁ o e1 h₁).2, hn w₁ h₁⟩

theorem dr_move {o : Oper} {t : Nat} {v : Value} (h : o.op = .move (.tmp t)) (ht : T[t]? = some v) (w₁ : World) : (execOp (⟨T, []⟩ : Act).eval o).run Try.prog w₁ = .ok (.value v) w₁ ∧ DK S w₁ w₁ (listed Try.prog bS.fn ⟨T, []⟩ o w₁) := by
  have he : execOp (⟨T, []⟩ : Act).eval o = pure (.value v) := by unfold execOp; simp only [h, evalT ht]
  refine ⟨by rw [he]; rfl, dk_none fun e hm => ?_⟩
  have := mem_listed hm
  rw [he] at this
  simp [go_sem] at this
theorem dr_idxv {o : Oper} {t u C pl : Nat} (h : o.op = .indexAddr 30 (.tmp t) (.tmp u)) (ht : T[t]? = some (.pointer (some ⟨C, 0, none⟩))) (hu : T[u]? = some (.int .i64 pl)) (hp : pl < 24) (w₁ : World) :
    (execOp (⟨T, []⟩ : Act).eval o).run Try.prog w₁ = .ok (.value (.pointer (some ⟨C, pl, none⟩))) w₁ ∧ DK S w₁ w₁ (listed Try.prog bS.fn ⟨T, []⟩ o w₁) := by
  have he : execOp (⟨T, []⟩ : Act).eval o = (do pure (.value (← Instr.indexAt 30 (.pointer (some ⟨C, 0, none⟩)) (.int .i64 (pl : Int)))) : Sem Next) := by unfold execOp; simp only [h, evalT ht, evalT hu]
  refine ⟨by rw [he]; simp [go_sem, idx_v C pl hp, add0], dk_none fun e hm => ?_⟩
  have := mem_listed hm
  rw [he] at this
  simp [go_sem, idx_v C pl hp, idx_v_ev C pl hp] at this
theorem dr_idxp {o : Oper} {t u C pl : Nat} (h : o.op = .indexAddr 33 (.tmp t) (.tmp u)) (ht : T[t]? = some (.pointer (some ⟨C, 0, none⟩))) (hu : T[u]? = some (.int .i64 pl)) (hp : pl < 24) (w₁ : World) :
    (execOp (⟨T, []⟩ : Act).eval o).run Try.prog w₁ = .ok (.value (.pointer (some ⟨C, pl, none⟩))) w₁ ∧ DK S w₁ w₁ (listed Try.prog bS.fn ⟨T, []⟩ o w₁) := by
  have he : execOp (⟨T, []⟩ : Act).eval o = (do pure (.value (← Instr.indexAt 33 (.pointer (some ⟨C, 0, none⟩)) (.int .i64 (pl : Int)))) : Sem Next) := by unfold execOp; simp only [h, evalT ht, evalT hu]
  refine ⟨by rw [he]; simp [go_sem, idx_p C pl hp, add0], dk_none fun e hm => ?_⟩
  have := mem_listed hm
  rw [he] at this
  simp [go_sem, idx_p C pl hp, idx_p_ev C pl hp] at this
theorem dr_load {o : Oper} {t : Nat} {a : Addr} {z : Int} (h : o.op = .load 3 (.tmp t)) (ht : T[t]? = some (.pointer (some a))) {w₁ : World} (hc : w₁.cell? a = some (.int .i64 z)) (hS : S a.block) (hB : a.block < w₁.heap.size) :
    (execOp (⟨T, []⟩ : Act).eval o).run Try.prog w₁ = .ok (.value (.int .i64 z)) w₁ ∧ DK S w₁ w₁ (listed Try.prog bS.fn ⟨T, []⟩ o w₁) := by
  have he : execOp (⟨T, []⟩ : Act).eval o = (do pure (.value (← Instr.loadAt 3 (.pointer (some a)))) : Sem Next) := by unfold execOp; simp only [h, evalT ht]
  refine ⟨by rw [he]; simp [go_sem, hc], dk_read (a := a) (sy := false) hS hB fun e hm => ?_⟩
  have := mem_listed hm
  rw [he] at this
  simp [go_sem, hc] at this
  exact this
theorem dr_build {o : Oper} {x y : Int} (h : o.op = .build 59 #[(0, .tmp 19), (1, .tmp 22)]) (h1 : T[19]? = some (.int .i64 x)) (h2 : T[22]? = some (.int .i64 y)) (w₁ : World) :
    (execOp (⟨T, []⟩ : Act).eval o).run Try.prog w₁ = .ok (.value (.agg #[.int .i64 x, .int .i64 y])) w₁ ∧ DK S w₁ w₁ (listed Try.prog bS.fn ⟨T, []⟩ o w₁) := by
  have he : execOp (⟨T, []⟩ : Act).eval o = (do pure (.value (← Instr.build 59 #[(0, .int .i64 x), (1, .int .i64 y)])) : Sem Next) := by
    unfold execOp
    simp only [h, List.map_toArray, List.map_cons, List.map_nil, evalT h1, evalT h2]
  refine ⟨by rw [he]; simp [go_sem, bld], dk_none fun e hm => ?_⟩
  have := mem_listed hm
  rw [he] at this
  simp [go_sem, bld, bld_ev] at this

theorem Dr.put {d : Nat} {v : Value} {ls ls' : Array Bool} (h : Dr Cv Cp c row k pl x y ls T) (hd : 16 ≤ d) (hd2 : d < 26)
    (h0 : ls'.getD 0 false = true → (d = 16 ∧ v = .chan (some c)) ∨ (d ≠ 16 ∧ ls.getD 0 false = true)) (h1 : ls'.getD 1 false = true → (d = 17 ∧ v = .int .i64 pl) ∨ (d ≠ 17 ∧ ls.getD 1 false = true))
    (h2 : ls'.getD 2 false = true → (d = 18 ∧ v = .pointer (some ⟨Cv, pl, none⟩)) ∨ (d ≠ 18 ∧ ls.getD 2 false = true)) (h3 : ls'.getD 3 false = true → (d = 19 ∧ v = .int .i64 x) ∨ (d ≠ 19 ∧ ls.getD 3 false = true))
    (h4 : ls'.getD 4 false = true → (d = 20 ∧ v = .int .i64 pl) ∨ (d ≠ 20 ∧ ls.getD 4 false = true)) (h5 : ls'.getD 5 false = true → (d = 21 ∧ v = .pointer (some ⟨Cp, pl, none⟩)) ∨ (d ≠ 21 ∧ ls.getD 5 false = true))
    (h6 : ls'.getD 6 false = true → (d = 22 ∧ v = .int .i64 y) ∨ (d ≠ 22 ∧ ls.getD 6 false = true)) (h7 : ls'.getD 7 false = true → (d = 23 ∧ v = .agg #[.int .i64 x, .int .i64 y]) ∨ (d ≠ 23 ∧ ls.getD 7 false = true))
    (k2 : ls'.getD 2 false = true → ls'.getD 1 false = true) (k3 : ls'.getD 3 false = true → ls'.getD 2 false = true) (k5 : ls'.getD 5 false = true → ls'.getD 4 false = true) (k6 : ls'.getD 6 false = true → ls'.getD 5 false = true) (k7 : ls'.getD 7 false = true → ls'.getD 3 false = true ∧ ls'.getD 6 false = true) :
    Dr Cv Cp c row k pl x y ls' (T.setIfInBounds d v) := by
  have hs : d < T.size := by rw [h.size]; exact hd2
  have keep : ∀ {t : Nat} {u : Value}, t < 16 → T[t]? = some u → (T.setIfInBounds d v)[t]? = some u := fun ht hu => by rw [setT hs, if_neg (by omega)]; exact hu
  have one : ∀ {t : Nat} {u : Value} {P' : Prop}, (P' → T[t]? = some u) → ((d = t ∧ v = u) ∨ (d ≠ t ∧ P')) → (T.setIfInBounds d v)[t]? = some u := fun hp hh => by
    rw [setT hs]
    rcases hh with ⟨e1, e2⟩ | ⟨e1, e2⟩
    · rw [if_pos e1, e2]
    · rw [if_neg e1]; exact hp e2
  exact ⟨by rw [Array.size_setIfInBounds]; exact h.size, keep (by omega) h.t1, keep (by omega) h.t3, keep (by omega) h.t4, keep (by omega) h.t6, keep (by omega) h.t9, keep (by omega) h.t10,
    fun e => one h.d0 (h0 e), fun e => one h.d1 (h1 e), fun e => one h.d2 (h2 e), fun e => one h.d3 (h3 e), fun e => one h.d4 (h4 e), fun e => one h.d5 (h5 e), fun e => one h.d6 (h6 e), fun e => one h.d7 (h7 e), k2, k3, k5, k6, k7⟩

/-- At the send. -/
def AtSend (S : Nat → Prop) (ty : TypeId) (wg Cv Cp c : Nat) (Lv Lp : List Int) (row : Int) (k pl : Nat) (x y : Int) (kk : List Item) (cs : List Frame) (g : Goroutine) (w : World) : Prop :=
  ∃ T, Dr Cv Cp c row k pl x y #[true, true, true, true, true, true, true, true, false] T ∧ g = G (bS.at ⟨T, []⟩ (.inRegion opsS [8] :: kk)) cs ∧ KB S ty wg Cv Cp Lv Lp w

set_option maxHeartbeats 4000000 in
/-- ████ THE DRAWN REGION, IN WHATEVER ORDER. ████ -/
theorem drawn_run (m : Region.Mode) (hpl : pl < 24) (hLv : Lv.length = 24) (hLp : Lp.length = 24) (hx : Lv.getD pl 0 = x) (hy : Lp.getD pl 0 = y) :
    ∀ (n fuel t : Nat) (l0 l1 l2 l3 l4 l5 l6 l7 l8 : Bool) (T : Array Value) (w : World), (!l0).toNat + (!l1).toNat + (!l2).toNat + (!l3).toNat + (!l4).toNat + (!l5).toNat + (!l6).toNat + (!l7).toNat + (!l8).toNat = n → n ≤ fuel → l8 = false →
      Dr Cv Cp c row k pl x y #[l0, l1, l2, l3, l4, l5, l6, l7, l8] T → KB S ty wg Cv Cp Lv Lp w →
      Goes Try.prog false (RK ty wg S) (DK S) (AtSend S ty wg Cv Cp c Lv Lp row k pl x y kk cs) n (G (bS.at ⟨T, []⟩ (.inRegion opsS (Region.linearise.go m opsS fuel t #[l0, l1, l2, l3, l4, l5, l6, l7, l8] []) :: kk)) cs) w := by
  intro n
  induction n with
  | zero => intro fuel t l0 l1 l2 l3 l4 l5 l6 l7 l8 T w hc hf h8; subst h8; simp at hc
  | succ n ih =>
    intro fuel t l0 l1 l2 l3 l4 l5 l6 l7 l8 T w hc hf h8 hD hK
    obtain ⟨fuel, rfl⟩ : ∃ f, fuel = f + 1 := ⟨fuel - 1, by omega⟩
    have c2 := hD.c2; have c3 := hD.c3; have c5 := hD.c5; have c6 := hD.c6; have c7 := hD.c7
    simp only [Array.getD_eq_getD_getElem?, List.getElem?_toArray, List.getElem?_cons_succ, List.getElem?_cons_zero, Option.getD_some] at c2 c3 c5 c6 c7
    obtain ⟨i, t', hi, hgo⟩ := go_next m opsS fuel t #[l0, l1, l2, l3, l4, l5, l6, l7, l8] (rdy_ne m c2 c3 c5 c6 c7 h8)
    rw [hgo]
    clear hgo
    rcases rdy_S m i hi with ⟨rfl, e⟩ | ⟨rfl, e⟩ | ⟨rfl, e, f⟩ | ⟨rfl, e, f⟩ | ⟨rfl, e⟩ | ⟨rfl, e, f⟩ | ⟨rfl, e, f⟩ | ⟨rfl, e, f, f'⟩ | ⟨rfl, e, f, f'⟩
    · subst e
      refine dr_step (op := .move (.tmp 3)) (d := 16) (v := .chan (some c)) rfl (fun w₁ o ho h₁ => dr_move ho hD.t3 w₁) fun w₁ h₁ => ?_
      refine ih fuel t' true l1 l2 l3 l4 l5 l6 l7 l8 _ w₁ ?_ (by omega) h8 (hD.put (by omega) (by omega) ?_ ?_ ?_ ?_ ?_ ?_ ?_ ?_ ?_ ?_ ?_ ?_ ?_) (kb_rely hK h₁)
      · simp only [Bool.not_false, Bool.not_true, Bool.toNat_true, Bool.toNat_false] at hc ⊢; omega
      all_goals (first | exact fun _ => .inl ⟨rfl, rfl⟩ | exact fun h => .inr ⟨by decide, h⟩ | exact c2 | exact c3 | exact c5 | exact c6 | exact c7 | exact fun _ => rfl | exact fun _ => f | exact fun _ => ⟨f, f'⟩ | exact fun h => ⟨rfl, (c7 h).2⟩ | exact fun h => ⟨(c7 h).1, rfl⟩)
    · subst e
      refine dr_step (op := .move (.tmp 9)) (d := 17) (v := .int .i64 pl) rfl (fun w₁ o ho h₁ => dr_move ho hD.t9 w₁) fun w₁ h₁ => ?_
      refine ih fuel t' l0 true l2 l3 l4 l5 l6 l7 l8 _ w₁ ?_ (by omega) h8 (hD.put (by omega) (by omega) ?_ ?_ ?_ ?_ ?_ ?_ ?_ ?_ ?_ ?_ ?_ ?_ ?_) (kb_rely hK h₁)
      · simp only [Bool.not_false, Bool.not_true, Bool.toNat_true, Bool.toNat_false] at hc ⊢; omega
      all_goals (first | exact fun _ => .inl ⟨rfl, rfl⟩ | exact fun h => .inr ⟨by decide, h⟩ | exact c2 | exact c3 | exact c5 | exact c6 | exact c7 | exact fun _ => rfl | exact fun _ => f | exact fun _ => ⟨f, f'⟩ | exact fun h => ⟨rfl, (c7 h).2⟩ | exact fun h => ⟨(c7 h).1, rfl⟩)
    · subst e
      refine dr_step (op := .indexAddr 30 (.tmp 4) (.tmp 17)) (d := 18) (v := .pointer (some ⟨Cv, pl, none⟩)) rfl (fun w₁ o ho h₁ => dr_idxv ho hD.t4 (hD.d1 (by simp [f])) hpl w₁) fun w₁ h₁ => ?_
      refine ih fuel t' l0 l1 true l3 l4 l5 l6 l7 l8 _ w₁ ?_ (by omega) h8 (hD.put (by omega) (by omega) ?_ ?_ ?_ ?_ ?_ ?_ ?_ ?_ ?_ ?_ ?_ ?_ ?_) (kb_rely hK h₁)
      · simp only [Bool.not_false, Bool.not_true, Bool.toNat_true, Bool.toNat_false] at hc ⊢; omega
      all_goals (first | exact fun _ => .inl ⟨rfl, rfl⟩ | exact fun h => .inr ⟨by decide, h⟩ | exact c2 | exact c3 | exact c5 | exact c6 | exact c7 | exact fun _ => rfl | exact fun _ => f | exact fun _ => ⟨f, f'⟩ | exact fun h => ⟨rfl, (c7 h).2⟩ | exact fun h => ⟨(c7 h).1, rfl⟩)
    · subst e
      refine dr_step (op := .load 3 (.tmp 18)) (d := 19) (v := .int .i64 x) rfl (fun w₁ o ho h₁ => dr_load ho (hD.d2 (by simp [f])) (by rw [VL_at Lv (by omega) (kb_rely hK h₁).v, hx]) hK.sv (kb_rely hK h₁).ltv) fun w₁ h₁ => ?_
      refine ih fuel t' l0 l1 l2 true l4 l5 l6 l7 l8 _ w₁ ?_ (by omega) h8 (hD.put (by omega) (by omega) ?_ ?_ ?_ ?_ ?_ ?_ ?_ ?_ ?_ ?_ ?_ ?_ ?_) (kb_rely hK h₁)
      · simp only [Bool.not_false, Bool.not_true, Bool.toNat_true, Bool.toNat_false] at hc ⊢; omega
      all_goals (first | exact fun _ => .inl ⟨rfl, rfl⟩ | exact fun h => .inr ⟨by decide, h⟩ | exact c2 | exact c3 | exact c5 | exact c6 | exact c7 | exact fun _ => rfl | exact fun _ => f | exact fun _ => ⟨f, f'⟩ | exact fun h => ⟨rfl, (c7 h).2⟩ | exact fun h => ⟨(c7 h).1, rfl⟩)
    · subst e
      refine dr_step (op := .move (.tmp 9)) (d := 20) (v := .int .i64 pl) rfl (fun w₁ o ho h₁ => dr_move ho hD.t9 w₁) fun w₁ h₁ => ?_
      refine ih fuel t' l0 l1 l2 l3 true l5 l6 l7 l8 _ w₁ ?_ (by omega) h8 (hD.put (by omega) (by omega) ?_ ?_ ?_ ?_ ?_ ?_ ?_ ?_ ?_ ?_ ?_ ?_ ?_) (kb_rely hK h₁)
      · simp only [Bool.not_false, Bool.not_true, Bool.toNat_true, Bool.toNat_false] at hc ⊢; omega
      all_goals (first | exact fun _ => .inl ⟨rfl, rfl⟩ | exact fun h => .inr ⟨by decide, h⟩ | exact c2 | exact c3 | exact c5 | exact c6 | exact c7 | exact fun _ => rfl | exact fun _ => f | exact fun _ => ⟨f, f'⟩ | exact fun h => ⟨rfl, (c7 h).2⟩ | exact fun h => ⟨(c7 h).1, rfl⟩)
    · subst e
      refine dr_step (op := .indexAddr 33 (.tmp 6) (.tmp 20)) (d := 21) (v := .pointer (some ⟨Cp, pl, none⟩)) rfl (fun w₁ o ho h₁ => dr_idxp ho hD.t6 (hD.d4 (by simp [f])) hpl w₁) fun w₁ h₁ => ?_
      refine ih fuel t' l0 l1 l2 l3 l4 true l6 l7 l8 _ w₁ ?_ (by omega) h8 (hD.put (by omega) (by omega) ?_ ?_ ?_ ?_ ?_ ?_ ?_ ?_ ?_ ?_ ?_ ?_ ?_) (kb_rely hK h₁)
      · simp only [Bool.not_false, Bool.not_true, Bool.toNat_true, Bool.toNat_false] at hc ⊢; omega
      all_goals (first | exact fun _ => .inl ⟨rfl, rfl⟩ | exact fun h => .inr ⟨by decide, h⟩ | exact c2 | exact c3 | exact c5 | exact c6 | exact c7 | exact fun _ => rfl | exact fun _ => f | exact fun _ => ⟨f, f'⟩ | exact fun h => ⟨rfl, (c7 h).2⟩ | exact fun h => ⟨(c7 h).1, rfl⟩)
    · subst e
      refine dr_step (op := .load 3 (.tmp 21)) (d := 22) (v := .int .i64 y) rfl (fun w₁ o ho h₁ => dr_load ho (hD.d5 (by simp [f])) (by rw [VL_at Lp (by omega) (kb_rely hK h₁).p, hy]) hK.sp (kb_rely hK h₁).ltp) fun w₁ h₁ => ?_
      refine ih fuel t' l0 l1 l2 l3 l4 l5 true l7 l8 _ w₁ ?_ (by omega) h8 (hD.put (by omega) (by omega) ?_ ?_ ?_ ?_ ?_ ?_ ?_ ?_ ?_ ?_ ?_ ?_ ?_) (kb_rely hK h₁)
      · simp only [Bool.not_false, Bool.not_true, Bool.toNat_true, Bool.toNat_false] at hc ⊢; omega
      all_goals (first | exact fun _ => .inl ⟨rfl, rfl⟩ | exact fun h => .inr ⟨by decide, h⟩ | exact c2 | exact c3 | exact c5 | exact c6 | exact c7 | exact fun _ => rfl | exact fun _ => f | exact fun _ => ⟨f, f'⟩ | exact fun h => ⟨rfl, (c7 h).2⟩ | exact fun h => ⟨(c7 h).1, rfl⟩)
    · subst e
      refine dr_step (op := .build 59 #[(0, .tmp 19), (1, .tmp 22)]) (d := 23) (v := .agg #[.int .i64 x, .int .i64 y]) rfl (fun w₁ o ho h₁ => dr_build ho (hD.d3 (by simp [f])) (hD.d6 (by simp [f'])) w₁) fun w₁ h₁ => ?_
      refine ih fuel t' l0 l1 l2 l3 l4 l5 l6 true l8 _ w₁ ?_ (by omega) h8 (hD.put (by omega) (by omega) ?_ ?_ ?_ ?_ ?_ ?_ ?_ ?_ ?_ ?_ ?_ ?_ ?_) (kb_rely hK h₁)
      · simp only [Bool.not_false, Bool.not_true, Bool.toNat_true, Bool.toNat_false] at hc ⊢; omega
      all_goals (first | exact fun _ => .inl ⟨rfl, rfl⟩ | exact fun h => .inr ⟨by decide, h⟩ | exact c2 | exact c3 | exact c5 | exact c6 | exact c7 | exact fun _ => rfl | exact fun _ => f | exact fun _ => ⟨f, f'⟩ | exact fun h => ⟨rfl, (c7 h).2⟩ | exact fun h => ⟨(c7 h).1, rfl⟩)
    · -- THE SEND: all else has been done
      obtain ⟨f3, f6⟩ := c7 f'
      have f2 := c3 f3; have f1 := c2 f2; have f5 := c6 f6; have f4 := c5 f5
      subst e f f' f3 f6 f2 f1 f5 f4
      have hdone : rdy m opsS #[true, true, true, true, true, true, true, true, true] = [] := by
        apply List.eq_nil_iff_forall_not_mem.2
        intro j hj
        rcases rdy_S m j hj with ⟨_, h⟩ | ⟨_, h⟩ | ⟨_, h, _⟩ | ⟨_, h, _⟩ | ⟨_, h⟩ | ⟨_, h, _⟩ | ⟨_, h, _⟩ | ⟨_, h, _⟩ | ⟨_, h, _⟩ <;> cases h
      have hset : (#[true, true, true, true, true, true, true, true, false] : Array Bool).setIfInBounds 8 true = #[true, true, true, true, true, true, true, true, true] := rfl
      rw [hset, go_done m opsS fuel t' _ hdone]
      exact Goes.stop fun w₁ h₁ => ⟨T, hD, rfl, kb_rely hK h₁⟩
end
end Go.Proofs.Ytiodikflmijhkaa
/- A worker of the program's, whole: its birth, the deferred Done, sendRow. -/
set_option linter.unusedSectionVars false
set_option linter.unusedVariables false
set_option linter.unusedSimpArgs false
namespace Go.Proofs.Ytiodikflmijhkaa
open Go.Conc Go.ConcN Go.RowKit Go.Conc.Lib Go.ConcR.Gen Go.ConcN.Gen Farm
open Go.ConcR (KK wgBlock WgAt stA smA rd wr mk Payload Aside2 DC0)

theorem nmPl : (Try.f39.name == "runtime.NumGoroutine") = false := by kernel_rfl
theorem nmSR : (Try.f23.name == "runtime.NumGoroutine") = false := by kernel_rfl
theorem loudS : ((Try.prog).funcs[bS.fn]?).any (·.norace) = false := by kernel_rfl

/-- What is sent from a row's column. -/
def sentv (Lv Lp : List Int) (rw j : Nat) : Value := .agg #[.int .i64 (Lv.getD (4 * j + rw) 0), .int .i64 (Lp.getD (4 * j + rw) 0)]
def sents (Lv Lp : List Int) (rw k r : Nat) : List Value := (List.range r).map fun j => sentv Lv Lp rw (k + j)
theorem sents_succ (Lv Lp : List Int) (rw k r : Nat) : sents Lv Lp rw k (r + 1) = sentv Lv Lp rw k :: sents Lv Lp rw (k + 1) r := by
  simp only [sents, List.range_succ_eq_map, List.map_cons, List.map_map, Nat.add_zero]
  congr 1
  apply List.map_congr_left
  intro j _
  simp only [Function.comp_apply]
  congr 1
  omega

theorem sched_S (b : Bool) (t : Nat) : ∃ m t', Region.schedule b opsS t = Region.linearise.go m opsS 9 t' #[false, false, false, false, false, false, false, false, false] [] := by
  unfold Region.schedule
  split
  · exact ⟨.any, t, rfl⟩
  · exact ⟨_, t / 2, rfl⟩

/-- The head of sendRow's loop, at column k. -/
structure SH (Cv Cp c : Nat) (rw k : Nat) (T : Array Value) : Prop where
  size : T.size = 26
  t1 : T[1]? = some (.int .i64 (rw : Int))
  t3 : T[3]? = some (.chan (some c))
  t4 : T[4]? = some (.pointer (some ⟨Cv, 0, none⟩))
  t6 : T[6]? = some (.pointer (some ⟨Cp, 0, none⟩))
  t10 : T[10]? = some (.int .i64 (k : Int))

section
variable {S O : Nat → Prop} {wg Cv Cp c : Nat} {Lv Lp : List Int} {rw : Nat} {cs : List Frame} {T : Array Value} {w : World}

abbrev KRK (S : Nat → Prop) (wg : Nat) := RK 55 wg S
/-- Its next stop. -/
abbrev KNext (S O : Nat → Prop) (wg c : Nat) (N : Nat) (ss : List Value) (g : Goroutine) (w : World) : Prop := g.status = .running ∧ KStop Try.prog 55 wg c (Wk Try.prog 55 wg c N) O S ss g w

set_option maxRecDepth 100000 in
set_option maxHeartbeats 8000000 in
theorem sendLoop (hLv : Lv.length = 24) (hLp : Lp.length = 24) (hrw : rw < 4)
    (hend : ∀ T w, SH Cv Cp c rw 6 T → KB S 55 wg Cv Cp Lv Lp w → Goes Try.prog false (KRK S wg) (DK S) (KNext S O wg c 0 []) 20 (G (bS.at ⟨T, []⟩ [.code LS, .inLoop LS, .inBlock 0, .code RS]) cs) w) :
    ∀ (r k : Nat), k + r = 6 → ∀ T w, SH Cv Cp c rw k T → KB S 55 wg Cv Cp Lv Lp w → Goes Try.prog false (KRK S wg) (DK S) (KNext S O wg c r (sents Lv Lp rw k r)) 80 (G (bS.at ⟨T, []⟩ [.code LS, .inLoop LS, .inBlock 0, .code RS]) cs) w := by
  intro r
  induction r with
  | zero =>
    intro k hk T w hT hK
    obtain rfl : k = 6 := by omega
    exact (hend T w hT hK).mono (by omega)
  | succ r ih =>
    intro k hk T w hT hF
    obtain ⟨hs, t1, t3, t4, t6, t10⟩ := hT
    obtain ⟨v0, v1, v2, v3, v4, v5, v6, v7, v8, v9, v10, v11, v12, v13, v14, v15, v16, v17, v18, v19, v20, v21, v22, v23, v24, v25, rfl⟩ := array26 T hs
    simp only [List.getElem?_toArray, List.getElem?_cons_succ, List.getElem?_cons_zero, Option.some.injEq] at t1 t3 t4 t6 t10
    subst t1 t3 t4 t6 t10
    clear hs
    have hk6 : k < 6 := by omega
    have hlt : ((k : Int) < 6) = True := eq_true (by omega)
    have hpl : IntKind.i64.wrap (IntKind.i64.wrap ((k : Int) * 4) + (rw : Int)) = ((4 * k + rw : Nat) : Int) := by
      rw [wrap_i64_of ((k : Int) * 4) (by omega) (by omega), wrap_i64_of _ (by omega) (by omega)]; omega
    have hR6 := R6
    refine (goes_join (n := 60) (m := 11) dk_nil (RK.refl) ?_ : Goes Try.prog false (KRK S wg) (DK S) _ (60 + 11) _ w).mono (by omega)
    simp only [LS, bodyS, Try.f23, Option.getD_some]
    u_c stepG_seq kb_rely hF
    u_reg kb_rely hF
    u_op kb_rely hF
    u_c stepG_region_end kb_rely hF
    u_c stepG_seq kb_rely hF
    u_cond true kb_rely hF
    u_c stepG_skip kb_rely hF
    u_c stepG_seq kb_rely hF
    u_c stepG_block kb_rely hF
    u_c stepG_seq kb_rely hF
    u_reg kb_rely hF
    u_op kb_rely hF
    u_op kb_rely hF
    u_c stepG_region_end kb_rely hF
    u_c stepG_seq kb_rely hF
    u_reg kb_rely hF
    u_op kb_rely hF
    u_op kb_rely hF
    u_call Try.func39 nmPl Try.f39 kb_rely hF
    u_c stepG_seq kb_rely hF
    u_reg kb_rely hF
    u_op kb_rely hF
    u_c stepG_region_end kb_rely hF
    u_c stepG_seq kb_rely hF
    u_reg kb_rely hF
    u_op kb_rely hF
    u_op kb_rely hF
    u_op kb_rely hF
    u_op kb_rely hF
    u_op kb_rely hF
    u_c stepG_region_end kb_rely hF
    u_c stepG_ret' kb_rely hF
    u_leave1 Try.func39 kb_rely hF
    u_op kb_rely hF
    u_c stepG_region_end kb_rely hF
    refine Goes.stop (fun w₁ h₁ => ?_)
    replace hF := kb_rely hF h₁
    clear h₁
    -- THE DRAW
    refine Goes.step rfl (fun w₂ h₂ => ?_)
    replace hF := kb_rely hF h₂
    clear h₂
    rw [stepG_region_draw]
    simp only [goes_go]
    refine ⟨⟨⟨w₂.drawn + 1, rfl⟩, by simp⟩, ?_⟩
    obtain ⟨m, t', hsch⟩ := sched_S ((Try.prog).follows .mixedOrders) (w₂.tape w₂.drawn (.order bS.fn 5))
    change Goes Try.prog false (KRK S wg) (DK S) (KNext S O wg c (r + 1) (sents Lv Lp rw k (r + 1))) 10 (G (bS.at ⟨_, []⟩ (.inRegion opsS (Region.schedule ((Try.prog).follows .mixedOrders) opsS (w₂.tape w₂.drawn (.order bS.fn 5))) :: [.inBlock 1, .code R6, .inLoop LS, .inBlock 0, .code RS])) cs) _
    rw [hsch]
    refine (goes_mono (fun g w hst => ?_) (drawn_run (kk := [.inBlock 1, .code R6, .inLoop LS, .inBlock 0, .code RS]) (cs := cs) (c := c) (row := (rw : Int)) (k := k) (pl := 4 * k + rw) m (by omega) hLv hLp rfl rfl 9 9 t' false false false false false false false false false _ _ rfl (Nat.le_refl _) rfl
      ⟨by simp, by simp, by simp, by simp, by simp, by simp, by simp, fun h => (by cases h), fun h => (by cases h), fun h => (by cases h), fun h => (by cases h), fun h => (by cases h), fun h => (by cases h), fun h => (by cases h), fun h => (by cases h), fun h => (by cases h), fun h => (by cases h), fun h => (by cases h), fun h => (by cases h), fun h => (by cases h)⟩ (kb_rely hF (RK.at w₂ (w₂.drawn + 1))))).mono (by omega)
    clear hsch hF
    obtain ⟨T, hD, rfl, hF⟩ := hst
    have ho : opsS[8]?.map (fun o => (o.op, o.dst, o.guard)) = some (.send (.tmp 16) (.tmp 23), none, none) := rfl
    obtain ⟨o, ho1, ho2⟩ := Option.map_eq_some_iff.1 ho
    simp only [Prod.mk.injEq] at ho2
    obtain ⟨e1, e2, e3⟩ := ho2
    have hwt : Region.wanted o (yielded opsS (⟨T, []⟩ : Act).tmps) = true := by unfold Region.wanted; rw [e3]
    have he : execOp (⟨T, []⟩ : Act).eval o = pure (.comm #[scase c (sentv Lv Lp rw k) (.tuple #[])] true .send) := by
      unfold execOp
      simp only [e1, evalT (hD.d0 rfl), evalT (hD.d7 rfl)]
      rfl
    refine ⟨rfl, .send (sentv Lv Lp rw k) (.tuple #[]) (sents Lv Lp rw (k + 1) r) _ _ (sents_succ Lv Lp rw k r) (stepG_comm ho1 hwt (by k_ne) (by rw [he]; rfl)) (fun e hm => ?_) ?_⟩
    · have := mem_listed hm
      rw [he] at this
      simp [go_sem] at this
    refine ⟨20 + 80, goes_join (n := 20) (m := 80) dk_nil (RK.refl) ?_⟩
    have hfin : Conc.served (G (bS.at ⟨T, []⟩ (.inRegion opsS [8] :: [.inBlock 1, .code R6, .inLoop LS, .inBlock 0, .code RS])) cs) undef = G (bS.at ⟨T, []⟩ (.inRegion opsS [] :: [.inBlock 1, .code R6, .inLoop LS, .inBlock 0, .code RS])) cs := rfl
    rw [hfin]
    clear hfin he hwt e1 e2 e3 ho ho1
    have hs := hD.size
    have t1 := hD.t1
    have t3 := hD.t3
    have t4 := hD.t4
    have t6 := hD.t6
    have t10 := hD.t10
    clear hD
    obtain ⟨u0, u1, u2, u3, u4, u5, u6, u7, u8, u9, u10, u11, u12, u13, u14, u15, u16, u17, u18, u19, u20, u21, u22, u23, u24, u25, rfl⟩ := array26 T hs
    simp only [List.getElem?_toArray, List.getElem?_cons_succ, List.getElem?_cons_zero, Option.some.injEq] at t1 t3 t4 t6 t10
    subst t1 t3 t4 t6 t10
    have hwr : IntKind.i64.wrap ((k : Int) + 1) = (k : Int) + 1 := wrap_i64_of _ (by omega) (by omega)
    have ihk := ih (k + 1) (by omega)
    clear ih
    simp only [R6, LS, RS, bodyS, Try.f23, Option.getD_some] at ihk ⊢
    u_c stepG_region_end kb_rely hF
    u_c stepG_inBlock kb_rely hF
    u_reg kb_rely hF
    u_op kb_rely hF
    u_op kb_rely hF
    u_c stepG_region_end kb_rely hF
    u_c stepG_inLoop kb_rely hF
    refine Goes.stop (fun w₃ h₃ => ?_)
    exact ihk _ _ ⟨by simp, by simp, by simp, by simp, by simp, by simp⟩ (kb_rely hF h₃)
end

end Go.Proofs.Ytiodikflmijhkaa
/- A worker of the program's, whole: its birth, the deferred Done, sendRow. -/
set_option linter.unusedSectionVars false
set_option linter.unusedVariables false
set_option linter.unusedSimpArgs false
namespace Go.Proofs.Ytiodikflmijhkaa
open Go.Conc Go.ConcN Go.RowKit Go.Conc.Lib Go.ConcR.Gen Go.ConcN.Gen Farm
open Go.ConcR (KK wgBlock WgAt stA smA rd wr mk Payload Aside2 DC0)

abbrev b21 : Frame := baseD 21
noncomputable def bot : Frame := { (default : Frame) with fn := (Try.prog).funcs.size, defers := [], mode := .panicking [goexitEntry] }
noncomputable def body21 : Code := Try.f21.body.getD .skip
noncomputable def ops21 : Array Oper := match body21 with | .seq _ (.region _ ops _) => ops | _ => #[]
noncomputable def ops7 : Array Oper := match RS with | .region _ ops _ => ops | _ => #[]
def dDone (wg : Nat) : Deferred := dcall 22 #[.pointer (some ⟨wg, 0, none⟩)]
noncomputable def cs21 (wg : Nat) (T1 : Array Value) : List Frame := [b21.at ⟨T1, [dDone wg]⟩ [.inRegion ops21 [4]], bot]

theorem quitsTail (T : Array Value) : QuitsD Try.prog 2 0 (G { b21.at ⟨T, []⟩ [] with mode := .returning } [bot]) := by
  refine QuitsD.ctl (g' := G bot []) rfl (fun w => ?_) ?_
  · simp [G, stepG, unwind, doReturn, results, Frame.at, b21, baseD, bot, Try.func21, Try.f21, seen, GStep.after, goexitEntry]
  refine QuitsD.ctl (g' := { G bot [] with status := .finished }) rfl (fun w => ?_) ⟨rfl, rfl⟩
  simp [G, stepG, unwind, bot, goexitEntry, Frame.catches]
  rfl

section
variable {S O : Nat → Prop} {wg Cv Cp c : Nat} {Lv Lp : List Int} {rw : Nat} {T : Array Value} {w : World}

set_option maxRecDepth 100000 in
set_option maxHeartbeats 8000000 in
theorem behindClose {v : Value} (T' T1 : Array Value) (w : World) (hK : WgLive 55 wg w ∧ Has Cv 0 v w) :
    Goes Try.prog false (RW 55 wg Cv 24 0 0) (DWs wg No No Cv 24 1) (AtR0 Try.prog 55 wg Cv 24 0 1 v) 29 (G (bS.at ⟨T', []⟩ [.inRegion ops7 []]) (cs21 wg T1)) w := by
  have hA := @doneN payV lnk Try.prog wgL No No wg Cv 24 0 1 v
  simp only [body_done, doneFn, Option.getD_some] at hA
  simp only [cs21]
  u_c stepG_region_end kn_rely hK
  u_c stepG_end kn_rely hK
  u_leave0 Try.func23 kn_rely hK
  u_c stepG_region_end kn_rely hK
  u_c stepG_end kn_rely hK
  u_in kn_rely hK
  rw [stepG_unwind_enter rfl wgL.f_done (nm_done lnk) rfl]
  simp only [goes_go]
  refine ⟨by u_nil, ?_⟩
  walk_nrmf doneFn
  exact hA rfl (quitsTail _) _ hK

set_option maxRecDepth 100000 in
set_option maxHeartbeats 8000000 in
theorem atEnd (hLv : Lv.length = 24) (hO : O Cv) (T1 : Array Value) : ∀ T w, SH Cv Cp c rw 6 T → KB S 55 wg Cv Cp Lv Lp w → Goes Try.prog false (KRK S wg) (DK S) (KNext S O wg c 0 []) 20 (G (bS.at ⟨T, []⟩ [.code LS, .inLoop LS, .inBlock 0, .code RS]) (cs21 wg T1)) w := by
  intro T w hT hF
  obtain ⟨hs, t1, t3, t4, t6, t10⟩ := hT
  obtain ⟨v0, v1, v2, v3, v4, v5, v6, v7, v8, v9, v10, v11, v12, v13, v14, v15, v16, v17, v18, v19, v20, v21, v22, v23, v24, v25, rfl⟩ := array26 T hs
  simp only [List.getElem?_toArray, List.getElem?_cons_succ, List.getElem?_cons_zero, Option.some.injEq] at t1 t3 t4 t6 t10
  subst t1 t3 t4 t6 t10
  refine (goes_join (n := 18) (m := 0) dk_nil (RK.refl) ?_ : Goes Try.prog false (KRK S wg) (DK S) _ (18 + 0) _ w).mono (by omega)
  simp only [LS, RS, bodyS, Try.f23, Option.getD_some]
  u_c stepG_seq kb_rely hF
  u_reg kb_rely hF
  u_op kb_rely hF
  u_c stepG_region_end kb_rely hF
  u_c stepG_seq kb_rely hF
  u_cond false kb_rely hF
  u_exit kb_rely hF
  u_reg kb_rely hF
  u_op kb_rely hF
  refine Goes.stop (fun w₁ h₁ => Goes.stop fun w₂ h₂ => ?_)
  replace hF := kb_rely (kb_rely hF h₁) h₂
  clear h₁ h₂
  refine ⟨rfl, .close _ Cv 24 29 (.int .i64 (Lv.getD 0 0)) rfl hO ?_ ?_ ⟨VL Lv, hF.v, by rw [VL_size, hLv]⟩ (fun buf s r hc => stepG_close rfl rfl (by k_ne) rfl rfl hc loudS) ?_⟩
  · rfl
  · rfl
  · exact behindClose _ T1 w₂ ⟨hF.live, VL_at Lv (by omega) hF.v⟩
end

end Go.Proofs.Ytiodikflmijhkaa
/- Steps that look at memory or turn it, one by one, whatever the program. -/
set_option linter.unusedSectionVars false
set_option linter.unusedVariables false
namespace Go.Proofs.Ytiodikflmijhkaa.Farm
open Go Go.Conc Go.ConcN Go.RowKit

/-- It touches cells of block b alone. -/
def InB (b : Nat) (e : Event) : Prop := ∃ ad, e.loc = .cell ad ∧ ad.block = b
def RdB (b : Nat) (e : Event) : Prop := InB b e ∧ e.write = false

theorem goes_ex {P : Program} {main : Bool} {g g' : Goroutine} {w w' : World} {K : Goroutine → World → Array Event → Prop} {Pr : Array Event → Prop} (h : ∃ es, stepG P main g w = .go g' w' es ∧ Pr es) (k : ∀ es, Pr es → K g' w' es) : (stepG P main g w).goes K := by
  obtain ⟨es, h1, h2⟩ := h
  rw [h1]
  exact k es h2

section
variable {P : Program} {main : Bool} {b : Frame} {a : Act} {k : List Item} {cs : List Frame} {w : World} {ops : Array Oper} {i : Nat} {rest : List Nat} {o : Oper}

theorem listed_nil {fn : FuncId} (h : (execOp a.eval o).events P w #[] = #[]) : listed P fn a o w = #[] := by unfold listed; rw [h, seen_none]

theorem stepG_box {t : TypeId} {x : Operand} (ho : ops[i]? = some o) (hw : Region.wanted o (yielded ops a.tmps) = true) (hk : b.kind ≠ .early) (hop : o.op = .box t x) :
    stepG P main (G (b.at a (.inRegion ops (i :: rest) :: k)) cs) w = .go (G (b.at (a.put o.dst (.pointer (some ⟨w.heap.size, 0, none⟩))) (.inRegion ops rest :: k)) cs) (w.alloc (.cells (a.eval x).cells t)) #[] := by
  have he : execOp a.eval o = (do pure (.value (← Instr.box t (a.eval x))) : Sem Next) := by unfold execOp; simp only [hop]
  rw [stepG_value ho hw hk (v := .pointer (some ⟨w.heap.size, 0, none⟩)) (w' := w.alloc (.cells (a.eval x).cells t)) (by rw [he]; rfl), listed_nil (by rw [he]; rfl)]

theorem stepG_alloc {t : TypeId} {z : Value} (ho : ops[i]? = some o) (hw : Region.wanted o (yielded ops a.tmps) = true) (hk : b.kind ≠ .early) (hop : o.op = .alloc t) (hz : ∀ w, (zeroValue t).run P w = .ok z w) :
    stepG P main (G (b.at a (.inRegion ops (i :: rest) :: k)) cs) w = .go (G (b.at (a.put o.dst (.pointer (some ⟨w.heap.size, 0, none⟩))) (.inRegion ops rest :: k)) cs) (w.alloc (.cells z.cells t)) #[] := by
  have he : execOp a.eval o = (do pure (.value (← Instr.alloc t true (.tuple #[]))) : Sem Next) := by unfold execOp; simp only [hop]
  have h1 : (Instr.alloc t true (.tuple #[])).run P w = .ok (.pointer (some ⟨w.heap.size, 0, none⟩)) (w.alloc (.cells z.cells t)) := by
    unfold Instr.alloc
    rw [Sem.run_bind, hz]
    rfl
  have h2 : (Instr.alloc t true (.tuple #[])).events P w #[] = #[] := by
    unfold Instr.alloc
    rw [Sem.events_bind, hz]
    simp only [events_zeroValue]
    rfl
  rw [stepG_value ho hw hk (v := .pointer (some ⟨w.heap.size, 0, none⟩)) (w' := w.alloc (.cells z.cells t)) (by rw [he, Sem.run_bind, h1]; rfl), listed_nil (by rw [he, Sem.events_bind, h1]; simp only [h2]; rfl)]

theorem add00 (g n : Nat) : (⟨g, 0, none⟩ : Addr).add n = ⟨g, n, none⟩ := by
  unfold Addr.add
  split
  · subst_vars; rfl
  · simp
theorem loadCells_in (g : Nat) (vs : Array Value) (t : TypeId) (hg : w.heap[g]? = some (.cells vs t)) (n : Nat) (hn : n ≤ vs.size) : ∀ e ∈ (loadCells ⟨g, 0, none⟩ n).events P w #[], RdB g e := by
  intro e he
  rcases events_loadCellsFrom_at ⟨g, 0, none⟩ (fun x => x = g) rfl n 0 #[] w #[] (fun j hj => by
    rw [add00]
    simp [World.cell?, hg]
    omega) e he with h | ⟨ad, h1, h2, h3⟩
  · simp at h
  · exact ⟨⟨ad, h1, h3⟩, h2⟩

/-- A whole row is read. -/
theorem stepG_loadR {t ty : TypeId} {x : Operand} {g : Nat} {vs : Array Value} {d : TypeDesc} (ho : ops[i]? = some o) (hw : Region.wanted o (yielded ops a.tmps) = true) (hk : b.kind ≠ .early) (hop : o.op = .load ty x) (hx : a.eval x = .pointer (some ⟨g, 0, none⟩))
    (hg : w.heap[g]? = some (.cells vs t)) (hu : P.underlying ty = some d) (hd : (match d with | .struct _ | .array _ _ => true | _ => false) = true) (hi : (P.info? ty).map (·.size) = some vs.size) (hag : ∀ w, (isAgg ty).run P w = .ok true w) (hso : ∀ w, (sizeOf ty).run P w = .ok vs.size w) :
    ∃ es, stepG P main (G (b.at a (.inRegion ops (i :: rest) :: k)) cs) w = .go (G (b.at (a.put o.dst (.agg vs)) (.inRegion ops rest :: k)) cs) w es ∧ ∀ e ∈ es, RdB g e := by
  have he : execOp a.eval o = (do pure (.value (← loadVar ty ⟨g, 0, none⟩)) : Sem Next) := by unfold execOp; simp only [hop, hx]; rfl
  have hr := run_loadVar_row (P := P) w g t ty vs (0, 0) d hg hu hd hi
  refine ⟨_, stepG_value ho hw hk (by rw [he, Sem.run_bind, hr]; rfl), fun e hm => ?_⟩
  have hm := mem_listed hm
  rw [he, Sem.events_bind, hr] at hm
  have h2 : e ∈ (loadVar ty ⟨g, 0, none⟩).events P w #[] := hm
  unfold loadVar at h2
  rw [Sem.events_bind] at h2
  rw [hag] at h2
  simp only [events_isAgg] at h2
  replace h2 : e ∈ (sizeOf ty >>= fun n => loadCells ⟨g, 0, none⟩ n >>= fun cs => (pure (.agg cs) : Sem Value)).events P w #[] := h2
  rw [Sem.events_bind, hso] at h2
  simp only [events_sizeOf] at h2
  replace h2 : e ∈ (loadCells ⟨g, 0, none⟩ vs.size >>= fun cs => (pure (.agg cs) : Sem Value)).events P w #[] := h2
  rw [Sem.events_bind] at h2
  cases hl : (loadCells ⟨g, 0, none⟩ vs.size).run P w with
  | halt hh w' => rw [hl] at h2; exact loadCells_in g vs t hg _ (Nat.le_refl _) e h2
  | ok cs' w' => rw [hl] at h2; exact loadCells_in g vs t hg _ (Nat.le_refl _) e h2

/-- One cell is read. -/
theorem stepG_load1 {ty : TypeId} {x : Operand} {ad : Addr} {v : Value} (ho : ops[i]? = some o) (hw : Region.wanted o (yielded ops a.tmps) = true) (hk : b.kind ≠ .early) (hop : o.op = .load ty x) (hx : a.eval x = .pointer (some ad))
    (hc : w.cell? ad = some v) (hs : ∀ w, (isAgg ty).run P w = .ok false w) :
    ∃ es, stepG P main (G (b.at a (.inRegion ops (i :: rest) :: k)) cs) w = .go (G (b.at (a.put o.dst v) (.inRegion ops rest :: k)) cs) w es ∧ ∀ e ∈ es, RdB ad.block e := by
  have he : execOp a.eval o = (do pure (.value (← loadVar ty ad)) : Sem Next) := by unfold execOp; simp only [hop, hx]; rfl
  have hl : (load ad).run P w = .ok v w := by simp [hc]
  have hr : (loadVar ty ad).run P w = .ok v w := by
    unfold loadVar
    rw [Sem.run_bind, hs]
    exact hl
  refine ⟨_, stepG_value ho hw hk (by rw [he, Sem.run_bind, hr]; rfl), fun e hm => ?_⟩
  have hm := mem_listed hm
  rw [he, Sem.events_bind, hr] at hm
  have h2 : e ∈ (loadVar ty ad).events P w #[] := hm
  unfold loadVar at h2
  rw [Sem.events_bind, hs] at h2
  simp only [events_isAgg] at h2
  have h2 : e ∈ (load ad).events P w #[] := h2
  rcases events_load_at w ad .plain #[] hc e h2 with h | ⟨h1, h3⟩
  · simp at h
  · exact ⟨⟨ad, h1, rfl⟩, h3⟩

/-- One cell is written. -/
theorem stepG_store1 {ty : TypeId} {x y : Operand} {ad : Addr} {v u : Value} (ho : ops[i]? = some o) (hw : Region.wanted o (yielded ops a.tmps) = true) (hk : b.kind ≠ .early) (hop : o.op = .store ty x y) (hx : a.eval x = .pointer (some ad)) (hy : a.eval y = v)
    (hv : v.oneCell' = true) (hc : w.cell? ad = some u) (hz : w.frozen? ad = false) (hs : ∀ w, (sizeOf ty).run P w = .ok 1 w) :
    ∃ es, stepG P main (G (b.at a (.inRegion ops (i :: rest) :: k)) cs) w = .go (G (b.at (a.put o.dst undef) (.inRegion ops rest :: k)) cs) (w.setCell ad v) es ∧ ∀ e ∈ es, InB ad.block e := by
  have hcells : v.cells = #[v] := by cases v <;> first | rfl | cases hv
  have h0 : ad.add 0 = ad := rfl
  have he : execOp a.eval o = (do storeVar ty ad v; pure .skip : Sem Next) := by unfold execOp; simp only [hop, hx, hy]; rfl
  have hst : (store ad v).run P w = .ok () (w.setCell ad v) := by
    cases v <;> first | (cases hv; done) | (simp only [store, Sem.run, hc, hz]; rfl)
  have hr : (storeVar ty ad v).run P w = .ok () (w.setCell ad v) := by
    unfold storeVar
    rw [Sem.run_bind, hs]
    simp only [hcells, Result.andThen_ok]
    show ((store (ad.add 0) v).bind fun _ => (pure () : Sem Unit)).run P w = _
    rw [h0]
    show ((store ad v) >>= fun _ => (pure () : Sem Unit)).run P w = _
    rw [Sem.run_bind, hst]
    rfl
  refine ⟨_, stepG_none ho hw hk (by rw [he, Sem.run_bind, hr]; rfl), fun e hm => ?_⟩
  have hm := mem_listed hm
  rw [he, Sem.events_bind, hr] at hm
  have h2 : e ∈ (storeVar ty ad v).events P w #[] := hm
  unfold storeVar at h2
  rw [Sem.events_bind, hs] at h2
  simp only [events_sizeOf, hcells] at h2
  have h3 : e ∈ ((store (ad.add 0) v) >>= fun _ => (pure () : Sem Unit)).events P w #[] := h2
  rw [h0, Sem.events_bind, hst] at h3
  have h4 : e ∈ (store ad v).events P w #[] := h3
  rw [events_store P w #[] ad v .plain hv, hc] at h4
  simp only [hz] at h4
  have h5 : e = ⟨.cell ad, true, Mode.plain == Mode.atomic⟩ := by simpa using h4
  exact ⟨ad, by rw [h5], rfl⟩

/-- A whole row is written. -/
theorem stepG_storeR {t ty : TypeId} {x y : Operand} {g : Nat} {old vs : Array Value} (ho : ops[i]? = some o) (hw : Region.wanted o (yielded ops a.tmps) = true) (hk : b.kind ≠ .early) (hop : o.op = .store ty x y) (hx : a.eval x = .pointer (some ⟨g, 0, none⟩)) (hy : a.eval y = .agg vs)
    (hg : w.heap[g]? = some (.cells old t)) (hi : (P.info? ty).map (·.size) = some vs.size) (hs : old.size = vs.size) (h1 : vs.all (·.oneCell') = true) (hso : ∀ w, (sizeOf ty).run P w = .ok vs.size w) :
    ∃ es, stepG P main (G (b.at a (.inRegion ops (i :: rest) :: k)) cs) w = .go (G (b.at (a.put o.dst undef) (.inRegion ops rest :: k)) cs) (w.setRow g vs) es ∧ ∀ e ∈ es, InB g e := by
  have he : execOp a.eval o = (do storeVar ty ⟨g, 0, none⟩ (.agg vs); pure .skip : Sem Next) := by unfold execOp; simp only [hop, hx, hy]; rfl
  have hr := run_storeVar_row (P := P) w g t ty old vs hg hi hs h1
  refine ⟨_, stepG_none ho hw hk (by rw [he, Sem.run_bind, hr]; rfl), fun e hm => ?_⟩
  have hm := mem_listed hm
  rw [he, Sem.events_bind, hr] at hm
  have h2 : e ∈ (storeVar ty ⟨g, 0, none⟩ (.agg vs)).events P w #[] := hm
  unfold storeVar at h2
  rw [Sem.events_bind, hso] at h2
  simp only [events_sizeOf] at h2
  have hne : ¬ (Value.agg vs).cells.size ≠ vs.size := by simp [Value.cells]
  have h3 : e ∈ (storeCells ⟨g, 0, none⟩ vs.toList 0).events P w #[] := by
    replace h2 : e ∈ (if (Value.agg vs).cells.size ≠ vs.size then (stuck "storeVar: the value has not the size of the variable" >>= fun _ : Unit => storeCells ⟨g, 0, none⟩ (Value.agg vs).cells.toList) else storeCells ⟨g, 0, none⟩ (Value.agg vs).cells.toList : Sem Unit).events P w #[] := h2
    rw [if_neg hne] at h2
    exact h2
  rcases events_storeCells_at g 0 t vs.toList 0 old w #[] hg (by simp; omega) (fun v hv => (Array.all_eq_true_iff_forall_mem.1 h1) v (by simpa using hv)) e h3 with h | ⟨ad, h4, h5⟩
  · simp at h
  · exact ⟨ad, h4, h5⟩
end

section
variable {st : MSt} {S : Nat → Prop} {B g : Nat} {w : World} {es : Array Event}
theorem act_cell {e : Event} {ad : Addr} (h : e.loc = .cell ad) : MemAct.ofEvent e = .access e := by
  obtain ⟨l, x, y⟩ := e
  simp only at h
  subst h
  cases x <;> cases y <;> rfl
theorem evM_cell {e : Event} (h : InB g e) (hm : e.write = true → st.may g) (hg : ¬ st.grp g) (hB : g < B) : EvM st B e := by
  obtain ⟨ad, h1, rfl⟩ := h
  refine ⟨fun x hx => ?_, by rw [h1]; simp, by rw [h1]; simp, by rw [h1]; simp, ?_⟩
  · rw [act_cell h1] at hx
    simp only [MemAct.touch?, Option.some.injEq] at hx
    subst hx
    exact .inr ⟨by simp only [h1]; exact hg, fun hw => .inl ⟨ad, h1, hm hw⟩⟩
  · rw [act_cell h1]
    show (e.loc).low B
    rw [h1]; exact hB
theorem evK_cell {e : Event} (h : RdB g e) (hS : S g) (hB : g < B) : EvK S B e := by
  obtain ⟨⟨ad, h1, rfl⟩, h2⟩ := h
  refine ⟨fun x hx => ?_, by rw [h1]; simp, by rw [h1]; simp, by rw [h1]; simp, ?_⟩
  · rw [act_cell h1] at hx
    simp only [MemAct.touch?, Option.some.injEq] at hx
    subst hx
    exact ⟨ad, h1, hS, h2⟩
  · rw [act_cell h1]
    show (e.loc).low B
    rw [h1]; exact hB
theorem dm_read (h : ∀ e ∈ es, RdB g e) (hg : ¬ st.grp g) (hB : g < w.heap.size) : DM st w w es :=
  ⟨Nat.le_refl _, fun _ => rfl, fun _ _ _ => rfl, fun e he => evM_cell (h e he).1 (fun hw => by rw [(h e he).2] at hw; cases hw) hg hB⟩
theorem dm_set {a : Addr} {v : Value} (h : ∀ e ∈ es, InB a.block e) (hm : st.may a.block) (hg : ¬ st.grp a.block) (hB : a.block < w.heap.size) : DM st w (w.setCell a v) es := by
  have hA := aside_setCell w a v
  exact ⟨by rw [hA.size]; exact Nat.le_refl _, fun _ => hA.size, fun b _ hb => hA.block b fun e => hb (e ▸ hm), fun e he => evM_cell (h e he) (fun _ => hm) hg (by rw [hA.size]; exact hB)⟩
theorem dm_setRow {vs : Array Value} (h : ∀ e ∈ es, InB g e) (hm : st.may g) (hg : ¬ st.grp g) (hB : g < w.heap.size) : DM st w (w.setRow g vs) es := by
  have hs : (w.setRow g vs).heap.size = w.heap.size := by simp [World.setRow]
  exact ⟨by rw [hs]; exact Nat.le_refl _, fun _ => hs, fun b _ hb => setRow_other w g b vs fun e => hb (e ▸ hm), fun e he => evM_cell (h e he) (fun _ => hm) hg (by rw [hs]; exact hB)⟩
end

end Go.Proofs.Ytiodikflmijhkaa.Farm
/- A worker of the program's, whole. -/
set_option linter.unusedSectionVars false
set_option linter.unusedVariables false
set_option linter.unusedSimpArgs false
namespace Go.Proofs.Ytiodikflmijhkaa
open Go.Conc Go.ConcN Go.RowKit Go.Conc.Lib Go.ConcR.Gen Go.ConcN.Gen Farm
open Go.ConcR (KK wgBlock WgAt stA smA rd wr mk Payload Aside2 DC0)

/-- The call that a go statement holds: the group, and the boxes in which the captured variables lie. -/
def call21 (wg Bv Br Bp Bc : Nat) : Deferred := { target := .fn (.func 21) #[.pointer (some ⟨wg, 0, none⟩), .pointer (some ⟨Bv, 0, none⟩), .pointer (some ⟨Br, 0, none⟩), .pointer (some ⟨Bp, 0, none⟩), .pointer (some ⟨Bc, 0, none⟩)], args := #[] }
def caps (wg Bv Br Bp Bc : Nat) : Array Value := #[.pointer (some ⟨wg, 0, none⟩), .pointer (some ⟨Bv, 0, none⟩), .pointer (some ⟨Br, 0, none⟩), .pointer (some ⟨Bp, 0, none⟩), .pointer (some ⟨Bc, 0, none⟩), undef, undef, undef, undef, undef]

theorem born_step (wg Bv Br Bp Bc : Nat) (w : World) : stepG Try.prog false (born Try.prog (call21 wg Bv Br Bp Bc)) w = .go (G (b21.at ⟨caps wg Bv Br Bp Bc, []⟩ [.code body21]) [bot]) w #[] := by
  simp [born, call21, caps, stepG, unwind, callDeferred, invoke, callFunc, Try.func21, Try.f21, seen, GStep.after, G, Frame.enter, Frame.at, b21, baseD, bot, body21]

/-- What the worker is given. -/
structure KC (S : Nat → Prop) (wg Bv Br Bp Bc c rw : Nat) (Lv Lp : List Int) (w : World) : Prop where
  v : w.heap[Bv]? = some (.cells (VL Lv) 30)
  r : w.heap[Br]? = some (.cells #[.int .i64 (rw : Int)] 3)
  p : w.heap[Bp]? = some (.cells (VL Lp) 33)
  c : w.heap[Bc]? = some (.cells #[.chan (some c)] 45)
  live : WgLive 55 wg w
  sv : S Bv
  sr : S Br
  sp : S Bp
  sc : S Bc
section
variable {S O : Nat → Prop} {wg Bv Br Bp Bc c rw : Nat} {Lv Lp : List Int} {w w₁ : World}
theorem kc_rely (h : KC S wg Bv Br Bp Bc c rw Lv Lp w) (r : RK 55 wg S w w₁) : KC S wg Bv Br Bp Bc c rw Lv Lp w₁ :=
  ⟨(r.keep _ h.sv).trans h.v, (r.keep _ h.sr).trans h.r, (r.keep _ h.sp).trans h.p, (r.keep _ h.sc).trans h.c, r.live h.live, h.sv, h.sr, h.sp, h.sc⟩
theorem lt_of_some {b : Nat} {o : Obj} (h : w.heap[b]? = some o) : b < w.heap.size := (Array.getElem?_eq_some_iff.1 h).1
theorem cell_one {b : Nat} {u : Value} {t : TypeId} (h : w.heap[b]? = some (.cells #[u] t)) : w.cell? ⟨b, 0, none⟩ = some u := by simp [World.cell?, h]
theorem dk_rd {g : Nat} {es : Array Event} (h : ∀ e ∈ es, RdB g e) (hS : S g) (hB : g < w.heap.size) : DK S w w es := ⟨⟨w.drawn, rfl⟩, fun e he => evK_cell (h e he) hS hB⟩
theorem vInfoL (L : List Int) (h : L.length = 24) : ((Try.prog).info? 30).map (·.size) = some (VL L).size := by rw [VL_size, h]; kernel_rfl
theorem pInfoL (L : List Int) (h : L.length = 24) : ((Try.prog).info? 33).map (·.size) = some (VL L).size := by rw [VL_size, h]; kernel_rfl

abbrev KWk (c : Nat) (wg : Nat) (N : Nat) (O S : Nat → Prop) (ss : List Value) (g : Goroutine) (w : World) : Prop := Wk Try.prog 55 wg c N O S ss g w

set_option maxRecDepth 100000 in
set_option maxHeartbeats 8000000 in
/-- Behind its two boxes. -/
theorem inRow (hLv : Lv.length = 24) (hLp : Lp.length = 24) (hrw : rw < 4) {Cv Cp : Nat} (hO : O Cv) (T1 T : Array Value) (w : World) (hs : T.size = 26) (t1 : T[1]? = some (.int .i64 (rw : Int))) (t3 : T[3]? = some (.chan (some c))) (t4 : T[4]? = some (.pointer (some ⟨Cv, 0, none⟩))) (t6 : T[6]? = some (.pointer (some ⟨Cp, 0, none⟩)))
    {ops : Array Oper} {k' : List Item} (hk' : .inRegion ops [] :: k' = (match bodyS with | .seq _ r => [.inRegion ops [], .code r] | _ => [])) (hF : KB S 55 wg Cv Cp Lv Lp w) :
    KWk c wg 7 O S (sents Lv Lp rw 0 6) (G (bS.at ⟨T, []⟩ (.inRegion ops [] :: k')) (cs21 wg T1)) w := by
  refine ⟨12 + 80, goes_join (n := 12) (m := 80) dk_nil (RK.refl) ?_⟩
  obtain ⟨v0, v1, v2, v3, v4, v5, v6, v7, v8, v9, v10, v11, v12, v13, v14, v15, v16, v17, v18, v19, v20, v21, v22, v23, v24, v25, rfl⟩ := array26 T hs
  simp only [List.getElem?_toArray, List.getElem?_cons_succ, List.getElem?_cons_zero, Option.some.injEq] at t1 t3 t4 t6
  subst t1 t3 t4 t6
  rw [hk']
  have hl := sendLoop (S := S) (O := O) (wg := wg) (Cv := Cv) (Cp := Cp) (Lv := Lv) (Lp := Lp) (c := c) (cs := cs21 wg T1) (rw := rw) hLv hLp hrw (atEnd (Cp := Cp) (Lp := Lp) (S := S) (rw := rw) (c := c) hLv hO T1) 6 0 rfl
  simp only [bodyS, LS, RS, Try.f23, Option.getD_some] at hl ⊢
  u_c stepG_region_end kb_rely hF
  u_c stepG_seq kb_rely hF
  u_c stepG_seq kb_rely hF
  u_reg kb_rely hF
  u_op kb_rely hF
  u_c stepG_region_end kb_rely hF
  u_c stepG_block kb_rely hF
  u_c stepG_loop kb_rely hF
  refine Goes.stop (fun w₃ h₃ => ?_)
  exact hl _ _ ⟨by simp, by simp, by simp, by simp, by simp, by simp⟩ (kb_rely hF h₃)

theorem live_alloc {o : Obj} (h : WgLive 55 wg w) : WgLive 55 wg (w.alloc o) := by
  obtain ⟨st, sm, h⟩ := h
  exact ⟨st, sm, (heap_alloc_ne _ _ (lt_of_some h)).trans h⟩
theorem kstop_box {K : (Nat → Prop) → (Nat → Prop) → List Value → Goroutine → World → Prop} {ss : List Value} {b : Frame} {a : Act} {k : List Item} {cs : List Frame} {ops : Array Oper} {i : Nat} {rest : List Nat} {o : Oper} {t : TypeId} {x : Operand}
    (ho : ops[i]? = some o) (hw : Region.wanted o (yielded ops a.tmps) = true) (hk : b.kind ≠ .early) (hop : o.op = .box t x)
    (hn : K (fun b => O b ∨ b = w.heap.size) (fun b => S b ∨ b = w.heap.size) ss (G (b.at (a.put o.dst (.pointer (some ⟨w.heap.size, 0, none⟩))) (.inRegion ops rest :: k)) cs) (w.alloc (.cells (a.eval x).cells t))) :
    KStop Try.prog 55 wg c K O S ss (G (b.at a (.inRegion ops (i :: rest) :: k)) cs) w :=
  .new _ _ _ (stepG_box ho hw hk hop) hn
theorem szV (w : World) : (sizeOf 30).run Try.prog w = .ok 24 w := Try.sizeOf30 w
theorem szP (w : World) : (sizeOf 33).run Try.prog w = .ok 24 w := Try.sizeOf33 w

set_option maxRecDepth 100000 in
set_option maxHeartbeats 8000000 in
/-- ████ A WORKER DOES ITS SCRIPT. ████ -/
theorem works (hLv : Lv.length = 24) (hLp : Lp.length = 24) (hrw : rw < 4) (hF : KC S wg Bv Br Bp Bc c rw Lv Lp w) : KWk c wg 9 O S (sents Lv Lp rw 0 6) (born Try.prog (call21 wg Bv Br Bp Bc)) w := by
  refine ⟨(8 + (4 + (8 + 0))) + 1, ?_⟩
  refine Goes.step rfl (fun w₁ h₁ => ?_)
  replace hF := kc_rely hF h₁
  clear h₁
  rw [born_step]
  simp only [goes_go]
  refine ⟨dk_nil _, ?_⟩
  refine goes_join (n := 8) (m := 4 + (8 + 0)) dk_nil (RK.refl) ?_
  simp only [body21, Try.f21, Option.getD_some, caps]
  u_c stepG_seq kc_rely hF
  u_reg kc_rely hF
  u_defer kc_rely hF
  u_c stepG_region_end kc_rely hF
  u_reg kc_rely hF
  refine Goes.stop (fun w₁ h₁ => ?_)
  replace hF := kc_rely hF h₁
  clear h₁
  -- the four captured variables are read
  refine Goes.step rfl (fun w₁ h₁ => ?_)
  replace hF := kc_rely hF h₁
  clear h₁
  refine goes_ex (stepG_loadR (P := Try.prog) (main := false) (w := w₁) (g := Bv) (vs := VL Lv) (t := 30) (ty := 30) (x := .tmp 1) rfl rfl (by k_ne) rfl rfl hF.v Try.underlying30 rfl (vInfoL Lv hLv) Try.isAgg30 (fun w => by rw [VL_size, hLv]; exact szV w)) fun es hes => ⟨dk_rd hes hF.sv (lt_of_some hF.v), ?_⟩
  clear hes es
  walk_nrm
  refine Goes.step rfl (fun w₁ h₁ => ?_)
  replace hF := kc_rely hF h₁
  clear h₁
  refine goes_ex (stepG_load1 (P := Try.prog) (main := false) (w := w₁) (ad := ⟨Br, 0, none⟩) (ty := 3) (x := .tmp 2) rfl rfl (by k_ne) rfl rfl (cell_one hF.r) Try.isAgg3) fun es hes => ⟨dk_rd hes hF.sr (lt_of_some hF.r), ?_⟩
  clear hes es
  walk_nrm
  refine Goes.step rfl (fun w₁ h₁ => ?_)
  replace hF := kc_rely hF h₁
  clear h₁
  refine goes_ex (stepG_loadR (P := Try.prog) (main := false) (w := w₁) (g := Bp) (vs := VL Lp) (t := 33) (ty := 33) (x := .tmp 3) rfl rfl (by k_ne) rfl rfl hF.p Try.underlying33 rfl (pInfoL Lp hLp) Try.isAgg33 (fun w => by rw [VL_size, hLp]; exact szP w)) fun es hes => ⟨dk_rd hes hF.sp (lt_of_some hF.p), ?_⟩
  clear hes es
  walk_nrm
  refine Goes.step rfl (fun w₁ h₁ => ?_)
  replace hF := kc_rely hF h₁
  clear h₁
  refine goes_ex (stepG_load1 (P := Try.prog) (main := false) (w := w₁) (ad := ⟨Bc, 0, none⟩) (ty := 45) (x := .tmp 4) rfl rfl (by k_ne) rfl rfl (cell_one hF.c) Try.isAgg45) fun es hes => ⟨dk_rd hes hF.sc (lt_of_some hF.c), ?_⟩
  clear hes es
  walk_nrm
  refine goes_join (n := 8) (m := 0) dk_nil (RK.refl) ?_
  u_call Try.func23 nmSR Try.f23 kc_rely hF
  u_c stepG_seq kc_rely hF
  u_reg kc_rely hF
  refine Goes.stop (fun w₁ h₁ => ?_)
  replace hF := kc_rely hF h₁
  clear h₁
  refine Goes.stop (fun w₁ h₁ => ?_)
  replace hF := kc_rely hF h₁
  clear h₁
  refine ⟨rfl, kstop_box (x := .tmp 0) rfl rfl (by k_ne) rfl ?_⟩
  refine ⟨0, Goes.stop (fun w₂ h₂ => ?_)⟩
  have v0 : w₂.heap[w₁.heap.size]? = some (.cells (VL Lv) 30) := (h₂.keep _ (.inr rfl)).trans (heap_alloc_new _ _)
  have hL : WgLive 55 wg w₂ := h₂.live (live_alloc hF.live)
  clear hF h₂
  refine ⟨rfl, kstop_box (x := .tmp 2) rfl rfl (by k_ne) rfl ?_⟩
  refine inRow hLv hLp hrw (Cv := w₁.heap.size) (Cp := w₂.heap.size) (.inl (.inr rfl)) _ _ _ (by simp [Act.put]) rfl rfl rfl rfl rfl ?_
  exact ⟨(heap_alloc_ne _ _ (lt_of_some v0)).trans v0, heap_alloc_new _ _, live_alloc hL, .inl (.inr rfl), .inr rfl⟩
end

end Go.Proofs.Ytiodikflmijhkaa
/- What the starter knows of memory while its workers run; its stops that make blocks. No program is named here. -/
set_option linter.unusedSectionVars false
set_option linter.unusedVariables false
namespace Go.Proofs.Ytiodikflmijhkaa.Farm
open Go Go.Conc Go.ConcN Go.RowKit
open Go.ConcR (KK wgBlock WgAt stA smA rd wr mk Payload Aside2 DC0)

/-- What it knows: the world it began in, below; the blocks made ahead of the group's ('lo') and behind it ('X'); the shared ones. -/
structure KF (w0 : World) (lo X : List (Nat × Obj)) (grp : Nat → Prop) (w : World) : Prop where
  tape : w.tape = w0.tape
  os : w.os = w0.os
  output : w.output = w0.output
  low : ∀ b, b < w0.heap.size → w.heap[b]? = w0.heap[b]?
  lo : ∀ p ∈ lo, w.heap[p.1]? = some p.2
  objs : ∀ p ∈ X, w.heap[p.1]? = some p.2
  gl : ∀ b, grp b → b < w.heap.size

section
variable [Payload] {ty : TypeId} {wg : Nat} {w0 w w₁ : World} {lo X X' : List (Nat × Obj)} {grp mr : Nat → Prop} {st : MSt}

theorem kf_rm (hs : w0.heap.size ≤ wg) (hlo : ∀ p ∈ lo, p.1 < wg) (hX : ∀ p ∈ X, mr p.1) (h : KF w0 lo X grp w) (r : RM ty wg mr w w₁) : KF w0 lo X grp w₁ :=
  ⟨r.tape.trans h.tape, r.os.trans h.os, r.output.trans h.output, fun b hb => (r.low b (Nat.lt_of_lt_of_le hb hs)).trans (h.low b hb), fun p hp => (r.low _ (hlo p hp)).trans (h.lo p hp), fun p hp => (r.mine _ (hX p hp)).trans (h.objs p hp), fun b hb => Nat.lt_of_lt_of_le (h.gl b hb) r.size⟩
theorem kf_of (hl : st.tag ≠ .law) (hs : w0.heap.size ≤ st.wg) (hlo : ∀ p ∈ lo, p.1 < st.wg) (hX : ∀ p ∈ X, st.mr p.1) (h : KF w0 lo X grp w ∧ WgLive ty st.wg w) (r : ROf ty st w w₁) : KF w0 lo X grp w₁ ∧ WgLive ty st.wg w₁ :=
  ⟨kf_rm hs hlo hX h.1 (r.2 hl), (r.2 hl).live h.2⟩
theorem kf_at {d : Nat} (h : KF w0 lo X grp w) : KF w0 lo X grp (w.at d) := ⟨h.tape, h.os, h.output, h.low, h.lo, h.objs, h.gl⟩
theorem kf_law (hl : st.tag = .law) (h : KF w0 lo X grp w) (r : ROf ty st w w₁) : KF w0 lo X grp w₁ := by
  obtain ⟨d, rfl⟩ := r.1 hl
  exact kf_at h
theorem lt_of_some' {b : Nat} {o : Obj} (h : w.heap[b]? = some o) : b < w.heap.size := (Array.getElem?_eq_some_iff.1 h).1
theorem live_alloc' {o : Obj} (h : WgLive ty wg w) : WgLive ty wg (w.alloc o) := by
  obtain ⟨st, sm, h⟩ := h
  exact ⟨st, sm, (heap_alloc_ne _ _ (lt_of_some' h)).trans h⟩
theorem KF.alloc (h : KF w0 lo X grp w) (hs : w0.heap.size ≤ w.heap.size) (o : Obj) : KF w0 lo ((w.heap.size, o) :: X) grp (w.alloc o) :=
  ⟨h.tape, h.os, h.output, fun b hb => (heap_alloc_ne _ _ (by omega)).trans (h.low b hb), fun p hp => (heap_alloc_ne _ _ (lt_of_some' (h.lo p hp))).trans (h.lo p hp),
    fun p hp => (List.mem_cons.1 hp).elim (fun e => by subst e; exact heap_alloc_new _ _) fun hp => (heap_alloc_ne _ _ (lt_of_some' (h.objs p hp))).trans (h.objs p hp), fun b hb => by have := h.gl b hb; simp; omega⟩
theorem KF.allocG (h : KF w0 lo X grp w) (hs : w0.heap.size ≤ w.heap.size) (o : Obj) : KF w0 lo ((w.heap.size, o) :: X) (fun b => grp b ∨ b = w.heap.size) (w.alloc o) :=
  ⟨h.tape, h.os, h.output, (h.alloc hs o).low, (h.alloc hs o).lo, (h.alloc hs o).objs, fun b hb => hb.elim ((h.alloc hs o).gl b) fun e => by subst e; simp⟩
theorem KF.drop (h : KF w0 lo X grp w) (hX : ∀ p ∈ X', p ∈ X) : KF w0 lo X' grp w := ⟨h.tape, h.os, h.output, h.low, h.lo, fun p hp => h.objs p (hX p hp), h.gl⟩
/-- A block of one's own is turned. -/
theorem KF.turn (h : KF w0 lo X grp w) {lo' : List (Nat × Obj)} {g : Nat} {o : Obj} (hT : w₁.tape = w.tape ∧ w₁.os = w.os ∧ w₁.output = w.output ∧ w₁.heap.size = w.heap.size) (hb : ∀ b, b ≠ g → w₁.heap[b]? = w.heap[b]?) (hg : w₁.heap[g]? = some o) (h0 : w0.heap.size ≤ g)
    (hX : ∀ p ∈ X', p = (g, o) ∨ (p ∈ X ∧ p.1 ≠ g)) (hL : ∀ p ∈ lo', p = (g, o) ∨ (p ∈ lo ∧ p.1 ≠ g)) : KF w0 lo' X' grp w₁ :=
  ⟨hT.1.trans h.tape, hT.2.1.trans h.os, hT.2.2.1.trans h.output, fun b hlt => (hb b (by omega)).trans (h.low b hlt), fun p hp => (hL p hp).elim (fun e => by subst e; exact hg) fun x => (hb _ x.2).trans (h.lo p x.1),
    fun p hp => (hX p hp).elim (fun e => by subst e; exact hg) fun x => (hb _ x.2).trans (h.objs p x.1), fun b hb => by rw [hT.2.2.2]; exact h.gl b hb⟩
theorem turn_cell {g j : Nat} {cs : Array Value} {t : TypeId} {v : Value} (hg : w.heap[g]? = some (.cells cs t)) :
    ((w.setCell ⟨g, j, none⟩ v).tape = w.tape ∧ (w.setCell ⟨g, j, none⟩ v).os = w.os ∧ (w.setCell ⟨g, j, none⟩ v).output = w.output ∧ (w.setCell ⟨g, j, none⟩ v).heap.size = w.heap.size) ∧
    (∀ b, b ≠ g → (w.setCell ⟨g, j, none⟩ v).heap[b]? = w.heap[b]?) ∧ (w.setCell ⟨g, j, none⟩ v).heap[g]? = some (.cells (cs.setIfInBounds j v) t) := by
  have hA := aside_setCell w ⟨g, j, none⟩ v
  exact ⟨⟨hA.tape, hA.os, hA.output, hA.size⟩, fun b hb => hA.block b hb, heap_setCell_same w g j cs t v hg⟩
theorem turn_row {g : Nat} {cs : Array Value} {t : TypeId} {vs : Array Value} (hg : w.heap[g]? = some (.cells cs t)) :
    ((w.setRow g vs).tape = w.tape ∧ (w.setRow g vs).os = w.os ∧ (w.setRow g vs).output = w.output ∧ (w.setRow g vs).heap.size = w.heap.size) ∧
    (∀ b, b ≠ g → (w.setRow g vs).heap[b]? = w.heap[b]?) ∧ (w.setRow g vs).heap[g]? = some (.cells vs t) := by
  refine ⟨⟨rfl, rfl, rfl, by simp [World.setRow]⟩, fun b hb => setRow_other w g b vs hb, ?_⟩
  exact setRow_heap w g cs vs t _ hg
theorem live_turn {g : Nat} (hb : ∀ b, b ≠ g → w₁.heap[b]? = w.heap[b]?) (hg : wg ≠ g) (h : WgLive ty wg w) : WgLive ty wg w₁ := live_of (hb _ hg) h
end

section
variable [Payload] {P : Program} {ty : TypeId} {Post : MSt → Goroutine → World → Prop} {K : MSt → Goroutine → World → Prop} {wg bd gs : Nat} {grp may zone chs : Nat → Prop} {q : Nat → List Value}
  {b : Frame} {a : Act} {k : List Item} {cs : List Frame} {w : World} {ops : Array Oper} {i : Nat} {rest : List Nat} {o : Oper}

theorem mstop_alloc {t : TypeId} {z : Value} (ho : ops[i]? = some o) (hw : Region.wanted o (yielded ops a.tmps) = true) (hk : b.kind ≠ .early) (hop : o.op = .alloc t) (hz : ∀ w, (zeroValue t).run P w = .ok z w)
    (hn : K ⟨.opn false, 0, wg, bd, gs, grp, fun b => may b ∨ b = w.heap.size, zone, chs, q⟩ (G (b.at (a.put o.dst (.pointer (some ⟨w.heap.size, 0, none⟩))) (.inRegion ops rest :: k)) cs) (w.alloc (.cells z.cells t))) :
    MStop P ty Post K ⟨.opn false, 0, wg, bd, gs, grp, may, zone, chs, q⟩ (G (b.at a (.inRegion ops (i :: rest) :: k)) cs) w :=
  .new _ _ rfl rfl (stepG_alloc ho hw hk hop hz) hn

theorem stepG_chan {t e : TypeId} {dir : ChanDir} {inf : TypeInfo} {n : Nat} (ho : ops[i]? = some o) (hw : Region.wanted o (yielded ops a.tmps) = true) (hk : b.kind ≠ .early) (hop : o.op = .makeChan t (.const (.int .i64 n)))
    (ht : P.underlying t = some (.chan dir e)) (hi : P.info? e = some inf) (h63 : (n : Int) ≤ 9223372036854775807) (hb : (inf.bytes : Int) * n ≤ 281474976710544) :
    stepG P true (G (b.at a (.inRegion ops (i :: rest) :: k)) cs) w = .go (G (b.at (a.put o.dst (.chan (some w.heap.size))) (.inRegion ops rest :: k)) cs) (w.alloc (.chan n #[] false 0 0 false)) #[] := by
  have he : execOp a.eval o = (do pure (.value (← Instr.makeChan t (.int .i64 n))) : Sem Next) := by unfold execOp; simp only [hop]; rfl
  have hr := run_makeChan (P := P) (w := w) ht hi .i64 n h63 hb
  have hv := events_makeChan (P := P) (w := w) ht hi .i64 n h63 hb
  rw [stepG_value ho hw hk (v := .chan (some w.heap.size)) (w' := w.alloc (.chan n #[] false 0 0 false)) (by rw [he, Sem.run_bind, hr]; rfl), listed_nil (by rw [he, Sem.events_bind, hr]; simp only [hv]; rfl)]

theorem mstop_chan {t e : TypeId} {dir : ChanDir} {inf : TypeInfo} {n : Nat} (ho : ops[i]? = some o) (hw : Region.wanted o (yielded ops a.tmps) = true) (hk : b.kind ≠ .early) (hop : o.op = .makeChan t (.const (.int .i64 n)))
    (ht : P.underlying t = some (.chan dir e)) (hi : P.info? e = some inf) (h63 : (n : Int) ≤ 9223372036854775807) (hb : (inf.bytes : Int) * n ≤ 281474976710544)
    (hn : K ⟨.opn false, 0, wg, bd, gs, fun b => grp b ∨ b = w.heap.size, may, zone, chs, q⟩ (G (b.at (a.put o.dst (.chan (some w.heap.size))) (.inRegion ops rest :: k)) cs) (w.alloc (.chan n #[] false 0 0 false))) :
    MStop P ty Post K ⟨.opn false, 0, wg, bd, gs, grp, may, zone, chs, q⟩ (G (b.at a (.inRegion ops (i :: rest) :: k)) cs) w :=
  .newc _ _ rfl rfl (stepG_chan ho hw hk hop ht hi h63 hb) hn

/-- An operation whose run and entries are known: it looks at no memory. -/
theorem stepG_idx {t : TypeId} {x y : Operand} {g n : Nat} {v : Value} (ho : ops[i]? = some o) (hw : Region.wanted o (yielded ops a.tmps) = true) (hk : b.kind ≠ .early) (hop : o.op = .indexAddr t x y) (hx : a.eval x = .pointer (some ⟨g, 0, none⟩)) (hy : a.eval y = v)
    (hr : (Instr.indexAt t (.pointer (some ⟨g, 0, none⟩)) v).run P w = .ok (.pointer (some ⟨g, n, none⟩)) w) (hv : (Instr.indexAt t (.pointer (some ⟨g, 0, none⟩)) v).events P w #[] = #[]) {main : Bool} :
    stepG P main (G (b.at a (.inRegion ops (i :: rest) :: k)) cs) w = .go (G (b.at (a.put o.dst (.pointer (some ⟨g, n, none⟩))) (.inRegion ops rest :: k)) cs) w #[] := by
  have he : execOp a.eval o = (do pure (.value (← Instr.indexAt t (.pointer (some ⟨g, 0, none⟩)) v)) : Sem Next) := by unfold execOp; simp only [hop, hx, hy]
  rw [stepG_value ho hw hk (v := .pointer (some ⟨g, n, none⟩)) (w' := w) (by rw [he, Sem.run_bind, hr]; rfl), listed_nil (by rw [he, Sem.events_bind, hr]; simp only [hv]; rfl)]
end

end Go.Proofs.Ytiodikflmijhkaa.Farm
/- The starter's loop: a row's box, its channel, the channel's box, Add, the worker. -/
set_option linter.unusedSectionVars false
set_option linter.unusedVariables false
set_option linter.unusedSimpArgs false
namespace Go.Proofs.Ytiodikflmijhkaa
open Go.Conc Go.ConcN Go.RowKit Go.Conc.Lib Go.ConcR.Gen Go.ConcN.Gen Farm
open Go.ConcR (KK wgBlock WgAt stA smA rd wr mk Payload Aside2 DC0)

abbrev b14 : Frame := base 14
noncomputable def bodyM : Code := Try.f14.body.getD .skip
noncomputable def LM1 : Code := match bodyM with | .seq _ (.seq _ (.seq _ (.seq (.seq _ (.block _ (.loop b))) _))) => b | _ => .skip
noncomputable def RM1 : Code := match bodyM with | .seq _ (.seq _ (.seq _ (.seq _ r))) => r | _ => .skip

/-- The rows' channels as they lie in the array. -/
def chA (cl : List Nat) : Array Value := (cl.map (fun c => Value.chan (some c)) ++ List.replicate (4 - cl.length) (Value.chan none)).toArray
theorem chA_at {cl : List Nat} (h : cl.length < 4) : (chA cl)[cl.length]? = some (.chan none) := by
  simp only [chA, List.getElem?_toArray]
  rw [List.getElem?_append_right (by simp), List.length_map, Nat.sub_self, List.getElem?_replicate, if_pos (by omega)]
theorem chA_set {cl : List Nat} {c : Nat} (h : cl.length < 4) : (chA cl).setIfInBounds cl.length (.chan (some c)) = chA (cl ++ [c]) := by
  simp only [chA, List.setIfInBounds_toArray, List.length_append, List.length_cons, List.length_nil]
  congr 1
  rw [List.set_append_right _ _ (by simp)]
  simp only [List.length_map, Nat.sub_self, List.map_append, List.map_cons, List.map_nil, List.append_assoc, List.cons_append, List.nil_append]
  congr 1
  obtain ⟨k, hk⟩ : ∃ k, 4 - cl.length = k + 1 := ⟨4 - cl.length - 1, by omega⟩
  rw [hk, show 4 - (cl.length + (0 + 1)) = k by omega, List.replicate_succ]
  rfl
/-- The blocks made ahead of the group's. -/
abbrev loB (B2 B3 B4 B5 : Nat) (Lv Lp : List Int) (z : Array Value) (cl : List Nat) : List (Nat × Obj) := [(B2, .cells (VL Lv) 30), (B3, .cells (VL Lp) 33), (B4, .cells z 30), (B5, .cells (chA cl) 46)]
/-- Where they lie. -/
structure Lay (w0 : World) (B2 B3 B4 B5 wg : Nat) : Prop where
  h2 : B2 = w0.heap.size
  h3 : B3 = w0.heap.size + 1
  h4 : B4 = w0.heap.size + 2
  h5 : B5 = w0.heap.size + 3
  hw : wg = w0.heap.size + 4
/-- The rows' channels so far. -/
structure LI (w0 : World) (grp0 : Nat → Prop) (wg : Nat) (Lv Lp : List Int) (cl : List Nat) (grp chs : Nat → Prop) (q : Nat → List Value) : Prop where
  gw : grp wg
  gb : ∀ b, grp b → ¬ (w0.heap.size ≤ b ∧ b < wg)
  g0 : ∀ b, grp b → b < w0.heap.size → grp0 b
  cg : ∀ b, chs b → grp b
  cc : ∀ c ∈ cl, chs c
  nd : cl.Nodup
  qs : ∀ j c, cl[j]? = some c → q c = sents Lv Lp j 0 6
section
variable {Post : MSt → Goroutine → World → Prop} {w0 : World} {B2 B3 B4 B5 wg : Nat} {Lv Lp : List Int} {z : Array Value} {Z grp0 grp chs : Nat → Prop} {q : Nat → List Value} {gs0 r c : Nat} {cl : List Nat} {cs : List Frame}
theorem Lay.le (h : Lay w0 B2 B3 B4 B5 wg) : w0.heap.size ≤ wg := by have := h.hw; omega
theorem lo_lt (h : Lay w0 B2 B3 B4 B5 wg) (cl : List Nat) : ∀ p ∈ loB B2 B3 B4 B5 Lv Lp z cl, p.1 < wg := by
  have h2 := h.h2; have h3 := h.h3; have h4 := h.h4; have h5 := h.h5; have hw := h.hw
  intro p hp
  simp only [List.mem_cons, List.not_mem_nil, or_false] at hp
  rcases hp with rfl | rfl | rfl | rfl <;> simp only <;> omega
theorem LI.grow (h : LI w0 grp0 wg Lv Lp cl grp chs q) (hs : w0.heap.size ≤ wg) (hc : wg < c) (hn : ¬ chs c) : LI w0 grp0 wg Lv Lp (cl ++ [c]) (fun b => grp b ∨ b = c) (fun b => chs b ∨ b = c) (upd q c (sents Lv Lp cl.length 0 6)) := by
  have hnc : c ∉ cl := fun x => hn (h.cc c x)
  refine ⟨.inl h.gw, fun b hb => hb.elim (h.gb b) fun e => by omega, fun b hb hlt => hb.elim (fun x => h.g0 b x hlt) fun e => by omega, fun b hb => hb.imp (h.cg b) id, fun x hx => ?_, ?_, fun j x hx => ?_⟩
  · rw [List.mem_append, List.mem_singleton] at hx
    exact hx.imp (h.cc x) id
  · rw [List.nodup_append]
    exact ⟨h.nd, by simp, fun a ha b hb e => hnc (by rw [List.mem_singleton] at hb; rw [← hb, ← e]; exact ha)⟩
  · rcases Nat.lt_trichotomy j cl.length with hj | hj | hj
    · rw [List.getElem?_append_left hj] at hx
      have hm : x ≠ c := fun e => hnc (e ▸ List.mem_of_getElem? hx)
      rw [upd_ne q _ hm]
      exact h.qs j x hx
    · subst hj
      simp at hx
      subst hx
      rw [upd_same]
    · rw [List.getElem?_eq_none (by simp; omega)] at hx; cases hx
theorem idx_c (C : Nat) (k : Nat) (hk : k < 4) (W : World) : (Instr.indexAt 46 (.pointer (some ⟨C, 0, none⟩)) (.int .i64 (k : Int))).run Try.prog W = .ok (.pointer (some ⟨C, k, none⟩)) W := by
  match k, hk with
  | 0, _ => exact (show _ = _ by kernel_rfl)
  | 1, _ => exact (show _ = _ by kernel_rfl)
  | 2, _ => exact (show _ = _ by kernel_rfl)
  | 3, _ => exact (show _ = _ by kernel_rfl)
  | n + 4, h => omega
theorem idx_c_ev (C : Nat) (k : Nat) (hk : k < 4) (W : World) : (Instr.indexAt 46 (.pointer (some ⟨C, 0, none⟩)) (.int .i64 (k : Int))).events Try.prog W #[] = #[] := by
  match k, hk with
  | 0, _ => exact (show _ = _ by kernel_rfl)
  | 1, _ => exact (show _ = _ by kernel_rfl)
  | 2, _ => exact (show _ = _ by kernel_rfl)
  | 3, _ => exact (show _ = _ by kernel_rfl)
  | n + 4, h => omega
theorem goSpawn {P : Program} {b : Frame} {a : Act} {k : List Item} {cs : List Frame} {w : World} {ops : Array Oper} {i : Nat} {rest : List Nat} {o : Oper} {t : Nat} {f : FuncId} {c : Array Value} (ho : ops[i]? = some o) (hw : Region.wanted o (yielded ops a.tmps) = true) (hk : b.kind ≠ .early)
    (hop : o.op = .go { callee := .value (.tmp t), args := #[], argTypes := #[] }) (ht : a.eval (.tmp t) = .func (.func f) #[] c) :
    stepG P true (G (b.at a (.inRegion ops (i :: rest) :: k)) cs) w = .spawn (G (b.at (a.put o.dst undef) (.inRegion ops rest :: k)) cs) (born P { target := .fn (.func f) c, args := #[] }) w #[] := by
  have he : execOp a.eval o = (pure (.spawn { target := .fn (.func f) c, args := #[] }) : Sem Next) := by unfold execOp; simp [hop, resolve, ht, Deferred.ofValue]
  rw [stepG_spawn ho hw hk (by rw [he]; rfl) rfl, Farm.listed_nil (by rw [he]; rfl)]

set_option maxRecDepth 100000 in
set_option maxHeartbeats 16000000 in
/-- ████ THE ROWS' WORKERS ARE STARTED. ████ -/
theorem rowLoop (hL : Lay w0 B2 B3 B4 B5 wg) (hZ : Z B2 ∧ Z B3 ∧ ∀ b, wg ≤ b → Z b) (hLv : Lv.length = 24) (hLp : Lp.length = 24) (hgs : gs0 + 4 < 1000) {N : Nat}
    (hend : ∀ cl grp chs q w v7 v8 v14 v15 v16 v17 v18 v19 v20 v21 v22, cl.length = 4 → LI w0 grp0 wg Lv Lp cl grp chs q → KF w0 (loB B2 B3 B4 B5 Lv Lp z cl) [] grp w ∧ WgLive 55 wg w →
      Goes Try.prog true (ROf 55 ⟨.opn false, 0, wg, 4, (gs0 + 4), grp, (fun b => b = B4 ∨ b = B5), Z, chs, q⟩) (DM ⟨.opn false, 0, wg, 4, (gs0 + 4), grp, (fun b => b = B4 ∨ b = B5), Z, chs, q⟩) (fun g w => g.status = .running ∧ MStop Try.prog 55 Post (Sc Try.prog 55 Post (N)) ⟨.opn false, 0, wg, 4, (gs0 + 4), grp, (fun b => b = B4 ∨ b = B5), Z, chs, q⟩ g w) 14 (G (b14.at ⟨#[.agg (VL Lv), .agg (VL Lp), .pointer (some ⟨B2, 0, none⟩), .pointer (some ⟨B3, 0, none⟩), .pointer (some ⟨B4, 0, none⟩), .pointer (some ⟨B5, 0, none⟩), .pointer (some ⟨wg, 0, none⟩), v7, v8, undef, undef, undef, undef, .int .i64 (4 : Int), v14, v15, v16, v17, v18, v19, v20, v21, v22, undef, undef, undef, undef, undef, undef, undef, undef, undef, undef, undef, undef, undef, undef, undef, undef], []⟩ [.code LM1, .inLoop LM1, .inBlock 0, .code RM1]) cs) w) :
    ∀ n r cl grp chs q w v7 v8 v14 v15 v16 v17 v18 v19 v20 v21 v22, r + n = 4 → cl.length = r → LI w0 grp0 wg Lv Lp cl grp chs q → KF w0 (loB B2 B3 B4 B5 Lv Lp z cl) [] grp w ∧ WgLive 55 wg w →
      Goes Try.prog true (ROf 55 ⟨.opn false, 0, wg, r, (gs0 + r), grp, (fun b => b = B4 ∨ b = B5), Z, chs, q⟩) (DM ⟨.opn false, 0, wg, r, (gs0 + r), grp, (fun b => b = B4 ∨ b = B5), Z, chs, q⟩) (fun g w => g.status = .running ∧ MStop Try.prog 55 Post (Sc Try.prog 55 Post (N + 7 * n)) ⟨.opn false, 0, wg, r, (gs0 + r), grp, (fun b => b = B4 ∨ b = B5), Z, chs, q⟩ g w) 14 (G (b14.at ⟨#[.agg (VL Lv), .agg (VL Lp), .pointer (some ⟨B2, 0, none⟩), .pointer (some ⟨B3, 0, none⟩), .pointer (some ⟨B4, 0, none⟩), .pointer (some ⟨B5, 0, none⟩), .pointer (some ⟨wg, 0, none⟩), v7, v8, undef, undef, undef, undef, .int .i64 (r : Int), v14, v15, v16, v17, v18, v19, v20, v21, v22, undef, undef, undef, undef, undef, undef, undef, undef, undef, undef, undef, undef, undef, undef, undef, undef], []⟩ [.code LM1, .inLoop LM1, .inBlock 0, .code RM1]) cs) w := by
  intro n
  induction n with
  | zero =>
    intro r cl grp chs q w v7 v8 v14 v15 v16 v17 v18 v19 v20 v21 v22 hr hc hI hF
    obtain rfl : r = 4 := by omega
    exact hend cl grp chs q w v7 v8 v14 v15 v16 v17 v18 v19 v20 v21 v22 hc hI hF
  | succ n ih =>
  intro r cl grp chs q w v7 v8 v14 v15 v16 v17 v18 v19 v20 v21 v22 hr hc hI hF
  have hs := hL.le
  have hle : w0.heap.size ≤ B2 ∧ B2 < B3 ∧ B3 < B4 ∧ B4 < B5 ∧ B5 < wg := by have h2 := hL.h2; have h3 := hL.h3; have h4 := hL.h4; have h5 := hL.h5; have hw := hL.hw; omega
  have hlt : ((r : Int) < 4) = True := eq_true (by omega)
  rw [show N + 7 * (n + 1) = N + 7 * n + 1 + 1 + 1 + 1 + 1 + 1 + 1 by omega]
  have fm : ∀ {w w₁ : World}, KF w0 (loB B2 B3 B4 B5 Lv Lp z cl) [] grp w ∧ WgLive 55 wg w → ROf 55 ⟨.opn false, 0, wg, r, (gs0 + r), grp, (fun b => b = B4 ∨ b = B5), Z, chs, q⟩ w w₁ → KF w0 (loB B2 B3 B4 B5 Lv Lp z cl) [] grp w₁ ∧ WgLive 55 wg w₁ := fun hh rr => kf_of (st := ⟨.opn false, 0, wg, r, (gs0 + r), grp, (fun b => b = B4 ∨ b = B5), Z, chs, q⟩) (by simp) hs (lo_lt hL _) (by simp) hh rr
  refine goes_join (n := 14) (m := 0) dm_nil (ROf.refl _ _) ?_
  simp only [LM1, bodyM, Try.f14, Option.getD_some]
  u_c stepG_seq fm hF
  u_reg fm hF
  u_op fm hF
  u_c stepG_region_end fm hF
  u_c stepG_seq fm hF
  u_cond true fm hF
  u_c stepG_skip fm hF
  u_c stepG_seq fm hF
  u_c stepG_block fm hF
  u_c stepG_seq fm hF
  u_reg fm hF
  u_op fm hF
  refine Goes.stop (fun w₁ h₁ => ?_)
  replace hF := fm hF h₁
  clear h₁
  refine Goes.stop (fun w₁ h₁ => ?_)
  replace hF := fm hF h₁
  clear h₁
  clear fm
  have hsz := live_lt hF.2
  refine ⟨rfl, mstop_alloc rfl rfl (by k_ne) rfl Try.zeroValue3 ?_⟩
  have n7 : ¬ grp w₁.heap.size := fun h => Nat.lt_irrefl _ (hF.1.gl _ h)
  replace hF : KF w0 (loB B2 B3 B4 B5 Lv Lp z cl) [(w₁.heap.size, .cells #[.int .i64 0] 3)] grp (w₁.alloc (.cells #[.int .i64 0] 3)) ∧ WgLive 55 wg (w₁.alloc (.cells #[.int .i64 0] 3)) := ⟨hF.1.alloc (by omega) _, live_alloc' hF.2⟩
  have hB : wg < w₁.heap.size := hsz
  revert hF n7 hB
  show _ → _ → _ → Sc Try.prog _ _ _ _ _ (w₁.alloc (.cells #[.int .i64 0] 3))
  generalize w₁.alloc (.cells #[.int .i64 0] 3) = w₂
  generalize w₁.heap.size = B7
  intro n7 hF hB
  -- the box is filled
  have fm : ∀ {w w₁ : World}, KF w0 (loB B2 B3 B4 B5 Lv Lp z cl) [(B7, .cells #[.int .i64 0] 3)] grp w ∧ WgLive 55 wg w → ROf 55 ⟨.opn false, 0, wg, r, (gs0 + r), grp, (fun b => (b = B4 ∨ b = B5) ∨ b = B7), Z, chs, q⟩ w w₁ → KF w0 (loB B2 B3 B4 B5 Lv Lp z cl) [(B7, .cells #[.int .i64 0] 3)] grp w₁ ∧ WgLive 55 wg w₁ := fun hh rr => kf_of (st := ⟨.opn false, 0, wg, r, (gs0 + r), grp, (fun b => (b = B4 ∨ b = B5) ∨ b = B7), Z, chs, q⟩) (by simp) hs (lo_lt hL _) (by intro p hp; simp only [List.mem_cons, List.not_mem_nil, or_false] at hp; subst hp; exact .inl (.inr rfl)) hh rr
  walk_nrm
  refine ⟨1 + 20, ?_⟩
  refine Goes.step rfl (fun w₁ h₁ => ?_)
  replace hF := fm hF h₁
  clear h₁
  clear fm
  have h7 := hF.1.objs (B7, .cells #[.int .i64 0] 3) (by simp)
  refine goes_ex (stepG_store1 (v := .int .i64 (r : Int)) rfl rfl (by k_ne) rfl rfl rfl rfl (_root_.Go.Lib.cell_of_heap h7 0) (_root_.Go.Lib.frozen_of_heap h7 0) Try.sizeOf3) fun es hes => ⟨dm_set hes (.inr rfl) n7 (lt_of_some' h7), ?_⟩
  clear es hes
  have ht := turn_cell (j := 0) (v := .int .i64 (r : Int)) h7
  replace hF : KF w0 (loB B2 B3 B4 B5 Lv Lp z cl) [(B7, .cells #[.int .i64 (r : Int)] 3)] grp (w₁.setCell ⟨B7, 0, none⟩ (.int .i64 (r : Int))) ∧ WgLive 55 wg (w₁.setCell ⟨B7, 0, none⟩ (.int .i64 (r : Int))) :=
    ⟨hF.1.turn ht.1 ht.2.1 ht.2.2 (by omega) (fun p hp => .inl (by simpa using hp)) fun p hp => .inr ⟨hp, by have := lo_lt hL _ p hp; omega⟩, live_turn ht.2.1 (by omega) hF.2⟩
  clear h7 ht
  generalize w₁.setCell _ _ = w₂ at hF ⊢
  have fm : ∀ {w w₁ : World}, KF w0 (loB B2 B3 B4 B5 Lv Lp z cl) [(B7, .cells #[.int .i64 (r : Int)] 3)] grp w ∧ WgLive 55 wg w → ROf 55 ⟨.opn false, 0, wg, r, (gs0 + r), grp, (fun b => (b = B4 ∨ b = B5) ∨ b = B7), Z, chs, q⟩ w w₁ → KF w0 (loB B2 B3 B4 B5 Lv Lp z cl) [(B7, .cells #[.int .i64 (r : Int)] 3)] grp w₁ ∧ WgLive 55 wg w₁ := fun hh rr => kf_of (st := ⟨.opn false, 0, wg, r, (gs0 + r), grp, (fun b => (b = B4 ∨ b = B5) ∨ b = B7), Z, chs, q⟩) (by simp) hs (lo_lt hL _) (by intro p hp; simp only [List.mem_cons, List.not_mem_nil, or_false] at hp; subst hp; exact .inl (.inr rfl)) hh rr
  refine goes_join (n := 10) (m := 10) dm_nil (ROf.refl _ _) ?_
  walk_nrm
  u_c stepG_region_end fm hF
  u_c stepG_seq fm hF
  u_reg fm hF
  refine Goes.stop (fun w₁ h₁ => ?_)
  replace hF := fm hF h₁
  clear h₁
  refine Goes.stop (fun w₁ h₁ => ?_)
  replace hF := fm hF h₁
  clear h₁
  clear fm
  have hsz := live_lt hF.2
  have h7lt : B7 < w₁.heap.size := lt_of_some' (hF.1.objs (B7, .cells #[.int .i64 (r : Int)] 3) (by simp))
  refine ⟨rfl, mstop_chan (n := 6) rfl rfl (by k_ne) rfl Try.underlying45 rfl (by omega) (by decide) ?_⟩
  have hc1 : ¬ chs w₁.heap.size := fun h => Nat.lt_irrefl _ (hF.1.gl _ (hI.cg _ h))
  replace hF : KF w0 (loB B2 B3 B4 B5 Lv Lp z cl) [(w₁.heap.size, .chan 6 #[] false 0 0 false), (B7, .cells #[.int .i64 (r : Int)] 3)] (fun b => grp b ∨ b = w₁.heap.size) (w₁.alloc (.chan 6 #[] false 0 0 false)) ∧ WgLive 55 wg (w₁.alloc (.chan 6 #[] false 0 0 false)) := ⟨hF.1.allocG (by omega) _, live_alloc' hF.2⟩
  have hc2 : wg < w₁.heap.size := hsz
  revert hF hc1 hc2 h7lt
  show _ → _ → _ → _ → Sc Try.prog _ _ _ _ _ (w₁.alloc (.chan 6 #[] false 0 0 false))
  generalize w₁.alloc (.chan 6 #[] false 0 0 false) = w₂
  generalize w₁.heap.size = c
  intro h7c hc1 hF hc2
  have fm : ∀ {w w₁ : World}, KF w0 (loB B2 B3 B4 B5 Lv Lp z cl) [(c, .chan 6 #[] false 0 0 false), (B7, .cells #[.int .i64 (r : Int)] 3)] (fun b => grp b ∨ b = c) w ∧ WgLive 55 wg w → ROf 55 ⟨.opn false, 0, wg, r, (gs0 + r), (fun b => grp b ∨ b = c), (fun b => (b = B4 ∨ b = B5) ∨ b = B7), Z, chs, q⟩ w w₁ → KF w0 (loB B2 B3 B4 B5 Lv Lp z cl) [(c, .chan 6 #[] false 0 0 false), (B7, .cells #[.int .i64 (r : Int)] 3)] (fun b => grp b ∨ b = c) w₁ ∧ WgLive 55 wg w₁ := fun hh rr => kf_of (st := ⟨.opn false, 0, wg, r, (gs0 + r), (fun b => grp b ∨ b = c), (fun b => (b = B4 ∨ b = B5) ∨ b = B7), Z, chs, q⟩) (by simp) hs (lo_lt hL _) (by intro p hp; simp only [List.mem_cons, List.not_mem_nil, or_false] at hp; rcases hp with rfl | rfl; exact .inr ⟨.inr rfl, hc1, hc2⟩; exact .inl (.inr rfl)) hh rr
  refine ⟨2 + 0, ?_⟩
  refine goes_join (n := 2) (m := 0) dm_nil (ROf.refl _ _) ?_
  walk_nrm
  refine Goes.stop (fun w₁ h₁ => ?_)
  replace hF := fm hF h₁
  clear h₁
  refine Goes.stop (fun w₁ h₁ => ?_)
  replace hF := fm hF h₁
  clear h₁
  clear fm
  have hsz := live_lt hF.2
  have hclt : c < w₁.heap.size := lt_of_some' (hF.1.objs (c, .chan 6 #[] false 0 0 false) (by simp))
  refine ⟨rfl, mstop_alloc rfl rfl (by k_ne) rfl Try.zeroValue45 ?_⟩
  have n8 : ¬ (grp w₁.heap.size ∨ w₁.heap.size = c) := fun h => Nat.lt_irrefl _ (hF.1.gl _ h)
  replace hF : KF w0 (loB B2 B3 B4 B5 Lv Lp z cl) [(w₁.heap.size, .cells #[.chan none] 45), (c, .chan 6 #[] false 0 0 false), (B7, .cells #[.int .i64 (r : Int)] 3)] (fun b => grp b ∨ b = c) (w₁.alloc (.cells #[.chan none] 45)) ∧ WgLive 55 wg (w₁.alloc (.cells #[.chan none] 45)) := ⟨hF.1.alloc (by omega) _, live_alloc' hF.2⟩
  have hB8 : wg < w₁.heap.size := hsz
  revert hF n8 hB8 hclt
  show _ → _ → _ → _ → Sc Try.prog _ _ _ _ _ (w₁.alloc (.cells #[.chan none] 45))
  generalize w₁.alloc (.cells #[.chan none] 45) = w₂
  generalize w₁.heap.size = B8
  intro h8c n8 hF hB8
  have fm : ∀ {w w₁ : World}, KF w0 (loB B2 B3 B4 B5 Lv Lp z cl) [(B8, .cells #[.chan none] 45), (c, .chan 6 #[] false 0 0 false), (B7, .cells #[.int .i64 (r : Int)] 3)] (fun b => grp b ∨ b = c) w ∧ WgLive 55 wg w → ROf 55 ⟨.opn false, 0, wg, r, (gs0 + r), (fun b => grp b ∨ b = c), (fun b => ((b = B4 ∨ b = B5) ∨ b = B7) ∨ b = B8), Z, chs, q⟩ w w₁ → KF w0 (loB B2 B3 B4 B5 Lv Lp z cl) [(B8, .cells #[.chan none] 45), (c, .chan 6 #[] false 0 0 false), (B7, .cells #[.int .i64 (r : Int)] 3)] (fun b => grp b ∨ b = c) w₁ ∧ WgLive 55 wg w₁ := fun hh rr => kf_of (st := ⟨.opn false, 0, wg, r, (gs0 + r), (fun b => grp b ∨ b = c), (fun b => ((b = B4 ∨ b = B5) ∨ b = B7) ∨ b = B8), Z, chs, q⟩) (by simp) hs (lo_lt hL _) (by intro p hp; simp only [List.mem_cons, List.not_mem_nil, or_false] at hp; rcases hp with rfl | rfl | rfl; exact .inl (.inr rfl); exact .inr ⟨.inr rfl, hc1, hc2⟩; exact .inl (.inl (.inr rfl))) hh rr
  walk_nrm
  refine ⟨1 + (4 + (2 + (2 + (6 + 12)))), ?_⟩
  refine Goes.step rfl (fun w₁ h₁ => ?_)
  replace hF := fm hF h₁
  clear h₁
  clear fm
  have h8 := hF.1.objs (B8, .cells #[.chan none] 45) (by simp)
  refine goes_ex (stepG_store1 (v := .chan (some c)) rfl rfl (by k_ne) rfl rfl rfl rfl (_root_.Go.Lib.cell_of_heap h8 0) (_root_.Go.Lib.frozen_of_heap h8 0) Try.sizeOf45) fun es hes => ⟨dm_set hes (.inr rfl) n8 (lt_of_some' h8), ?_⟩
  clear es hes
  have ht := turn_cell (j := 0) (v := .chan (some c)) h8
  replace hF : KF w0 (loB B2 B3 B4 B5 Lv Lp z cl) [(B8, .cells #[.chan (some c)] 45), (c, .chan 6 #[] false 0 0 false), (B7, .cells #[.int .i64 (r : Int)] 3)] (fun b => grp b ∨ b = c) (w₁.setCell ⟨B8, 0, none⟩ (.chan (some c))) ∧ WgLive 55 wg (w₁.setCell ⟨B8, 0, none⟩ (.chan (some c))) :=
    ⟨hF.1.turn ht.1 ht.2.1 ht.2.2 (by omega) (fun p hp => by
      simp only [List.mem_cons, List.not_mem_nil, or_false] at hp ⊢
      rcases hp with rfl | rfl | rfl
      · exact .inl rfl
      · exact .inr ⟨.inr (.inl rfl), by simp only; omega⟩
      · exact .inr ⟨.inr (.inr rfl), by simp only; omega⟩) fun p hp => .inr ⟨hp, by have := lo_lt hL _ p hp; omega⟩, live_turn ht.2.1 (by omega) hF.2⟩
  clear h8 ht
  generalize w₁.setCell _ _ = w₂ at hF ⊢
  have fm : ∀ {w w₁ : World}, KF w0 (loB B2 B3 B4 B5 Lv Lp z cl) [(B8, .cells #[.chan (some c)] 45), (c, .chan 6 #[] false 0 0 false), (B7, .cells #[.int .i64 (r : Int)] 3)] (fun b => grp b ∨ b = c) w ∧ WgLive 55 wg w → ROf 55 ⟨.opn false, 0, wg, r, (gs0 + r), (fun b => grp b ∨ b = c), (fun b => ((b = B4 ∨ b = B5) ∨ b = B7) ∨ b = B8), Z, chs, q⟩ w w₁ → KF w0 (loB B2 B3 B4 B5 Lv Lp z cl) [(B8, .cells #[.chan (some c)] 45), (c, .chan 6 #[] false 0 0 false), (B7, .cells #[.int .i64 (r : Int)] 3)] (fun b => grp b ∨ b = c) w₁ ∧ WgLive 55 wg w₁ := fun hh rr => kf_of (st := ⟨.opn false, 0, wg, r, (gs0 + r), (fun b => grp b ∨ b = c), (fun b => ((b = B4 ∨ b = B5) ∨ b = B7) ∨ b = B8), Z, chs, q⟩) (by simp) hs (lo_lt hL _) (by intro p hp; simp only [List.mem_cons, List.not_mem_nil, or_false] at hp; rcases hp with rfl | rfl | rfl; exact .inl (.inr rfl); exact .inr ⟨.inr rfl, hc1, hc2⟩; exact .inl (.inl (.inr rfl))) hh rr
  refine goes_join (n := 4) (m := 22) dm_nil (ROf.refl _ _) ?_
  walk_nrm
  u_c stepG_region_end fm hF
  u_c stepG_seq fm hF
  u_reg fm hF
  refine Goes.stop (fun w₁ h₁ => ?_)
  replace hF := fm hF h₁
  clear h₁
  refine Goes.step rfl (fun w₁ h₁ => ?_)
  replace hF := fm hF h₁
  clear h₁
  have h7 := hF.1.objs (B7, .cells #[.int .i64 (r : Int)] 3) (by simp)
  refine goes_ex (stepG_load1 (ty := 3) (ad := ⟨B7, 0, none⟩) (v := .int .i64 (r : Int)) rfl rfl (by k_ne) rfl rfl (_root_.Go.Lib.cell_of_heap h7 0) Try.isAgg3) fun es hes => ⟨dm_read hes (fun h => h.elim n7 fun e => absurd (show B7 = c from e) (by omega)) (lt_of_some' h7), ?_⟩
  clear es hes h7
  walk_nrm
  refine Goes.step rfl (fun w₁ h₁ => ?_)
  replace hF := fm hF h₁
  clear h₁
  have h8 := hF.1.objs (B8, .cells #[.chan (some c)] 45) (by simp)
  refine goes_ex (stepG_load1 (ty := 45) (ad := ⟨B8, 0, none⟩) (v := .chan (some c)) rfl rfl (by k_ne) rfl rfl (_root_.Go.Lib.cell_of_heap h8 0) Try.isAgg45) fun es hes => ⟨dm_read hes n8 (lt_of_some' h8), ?_⟩
  clear es hes h8
  walk_nrm
  refine Goes.step rfl (fun w₁ h₁ => ?_)
  replace hF := fm hF h₁
  clear h₁
  rw [stepG_idx (g := B5) (n := r) (v := .int .i64 (r : Int)) rfl rfl (by k_ne) rfl rfl rfl (idx_c B5 r (by omega) _) (idx_c_ev B5 r (by omega) _)]
  simp only [goes_go]
  refine ⟨dm_nil _, ?_⟩
  walk_nrm
  refine Goes.step rfl (fun w₁ h₁ => ?_)
  replace hF := fm hF h₁
  clear h₁
  clear fm
  have n5 : ¬ (grp B5 ∨ B5 = c) := fun h => h.elim (fun x => hI.gb _ x ⟨by omega, by omega⟩) fun e => by omega
  have h5' := hF.1.lo (B5, .cells (chA cl) 46) (by simp)
  refine goes_ex (stepG_store1 (v := .chan (some c)) (u := .chan none) (ad := ⟨B5, r, none⟩) rfl rfl (by k_ne) rfl rfl rfl rfl ((_root_.Go.Lib.cell_of_heap h5' r).trans (by rw [← hc]; exact chA_at (by omega))) (_root_.Go.Lib.frozen_of_heap h5' r) Try.sizeOf45) fun es hes => ⟨dm_set hes (.inl (.inl (.inr rfl))) n5 (lt_of_some' h5'), ?_⟩
  clear es hes
  have ht := turn_cell (j := r) (v := .chan (some c)) h5'
  rw [show (chA cl).setIfInBounds r (.chan (some c)) = chA (cl ++ [c]) by rw [← hc]; exact chA_set (by omega)] at ht
  replace hF : KF w0 (loB B2 B3 B4 B5 Lv Lp z (cl ++ [c])) [(B8, .cells #[.chan (some c)] 45), (c, .chan 6 #[] false 0 0 false), (B7, .cells #[.int .i64 (r : Int)] 3)] (fun b => grp b ∨ b = c) (w₁.setCell ⟨B5, r, none⟩ (.chan (some c))) ∧ WgLive 55 wg (w₁.setCell ⟨B5, r, none⟩ (.chan (some c))) :=
    ⟨hF.1.turn ht.1 ht.2.1 ht.2.2 (by omega) (fun p hp => .inr ⟨hp, by
      simp only [List.mem_cons, List.not_mem_nil, or_false] at hp
      rcases hp with rfl | rfl | rfl <;> simp only <;> omega⟩) fun p hp => by
        simp only [List.mem_cons, List.not_mem_nil, or_false] at hp ⊢
        rcases hp with rfl | rfl | rfl | rfl
        · exact .inr ⟨.inl rfl, by simp only; omega⟩
        · exact .inr ⟨.inr (.inl rfl), by simp only; omega⟩
        · exact .inr ⟨.inr (.inr (.inl rfl)), by simp only; omega⟩
        · exact .inl rfl, live_turn ht.2.1 (by omega) hF.2⟩
  clear h5' ht
  generalize w₁.setCell _ _ = w₂ at hF ⊢
  have fm : ∀ {w w₁ : World}, KF w0 (loB B2 B3 B4 B5 Lv Lp z (cl ++ [c])) [(B8, .cells #[.chan (some c)] 45), (c, .chan 6 #[] false 0 0 false), (B7, .cells #[.int .i64 (r : Int)] 3)] (fun b => grp b ∨ b = c) w ∧ WgLive 55 wg w → ROf 55 ⟨.opn false, 0, wg, r, (gs0 + r), (fun b => grp b ∨ b = c), (fun b => ((b = B4 ∨ b = B5) ∨ b = B7) ∨ b = B8), Z, chs, q⟩ w w₁ → KF w0 (loB B2 B3 B4 B5 Lv Lp z (cl ++ [c])) [(B8, .cells #[.chan (some c)] 45), (c, .chan 6 #[] false 0 0 false), (B7, .cells #[.int .i64 (r : Int)] 3)] (fun b => grp b ∨ b = c) w₁ ∧ WgLive 55 wg w₁ := fun hh rr => kf_of (st := ⟨.opn false, 0, wg, r, (gs0 + r), (fun b => grp b ∨ b = c), (fun b => ((b = B4 ∨ b = B5) ∨ b = B7) ∨ b = B8), Z, chs, q⟩) (by simp) hs (lo_lt hL _) (by intro p hp; simp only [List.mem_cons, List.not_mem_nil, or_false] at hp; rcases hp with rfl | rfl | rfl; exact .inl (.inr rfl); exact .inr ⟨.inr rfl, hc1, hc2⟩; exact .inl (.inl (.inr rfl))) hh rr
  refine goes_join (n := 6) (m := 12) dm_nil (ROf.refl _ _) ?_
  walk_nrm
  u_c stepG_region_end fm hF
  u_c stepG_seq fm hF
  u_reg fm hF
  u_call wgL.f_add (nm_add lnk) addFn fm hF
  refine Goes.stop (fun w₁ h₁ => ?_)
  replace hF := fm hF h₁
  clear h₁
  -- Add
  have hA := @addFarm payV lnk Try.prog Post wg r (gs0 + r) (fun b => grp b ∨ b = c) (fun b => ((b = B4 ∨ b = B5) ∨ b = B7) ∨ b = B8) Z chs q (KF w0 (loB B2 B3 B4 B5 Lv Lp z (cl ++ [c])) [(B8, .cells #[.chan (some c)] 45), (c, .chan 6 #[] false 0 0 false), (B7, .cells #[.int .i64 (r : Int)] 3)] (fun b => grp b ∨ b = c)) (N + 7 * n + 1)
  simp only [body_add, addFn, Option.getD_some] at hA
  refine hA wgL (by omega) (by rintro ((h | h) | h) <;> omega) (.inl hI.gw) (fun w w' rr hh => kf_rm hs (lo_lt hL _) (by intro p hp; simp only [List.mem_cons, List.not_mem_nil, or_false] at hp; rcases hp with rfl | rfl | rfl; exact .inl (.inr rfl); exact .inr ⟨.inr rfl, hc1, hc2⟩; exact .inl (.inl (.inr rfl))) hh rr) ?_ _ hF
  clear hA hF fm
  refine ⟨6 + 0, fun w hF hLive => ?_⟩
  replace hF := And.intro hF hLive
  clear hLive
  have fm : ∀ {w w₁ : World}, KF w0 (loB B2 B3 B4 B5 Lv Lp z (cl ++ [c])) [(B8, .cells #[.chan (some c)] 45), (c, .chan 6 #[] false 0 0 false), (B7, .cells #[.int .i64 (r : Int)] 3)] (fun b => grp b ∨ b = c) w ∧ WgLive 55 wg w → ROf 55 ⟨.opn true, 0, wg, (r + 1), (gs0 + r), (fun b => grp b ∨ b = c), (fun b => ((b = B4 ∨ b = B5) ∨ b = B7) ∨ b = B8), Z, chs, q⟩ w w₁ → KF w0 (loB B2 B3 B4 B5 Lv Lp z (cl ++ [c])) [(B8, .cells #[.chan (some c)] 45), (c, .chan 6 #[] false 0 0 false), (B7, .cells #[.int .i64 (r : Int)] 3)] (fun b => grp b ∨ b = c) w₁ ∧ WgLive 55 wg w₁ := fun hh rr => kf_of (st := ⟨.opn true, 0, wg, (r + 1), (gs0 + r), (fun b => grp b ∨ b = c), (fun b => ((b = B4 ∨ b = B5) ∨ b = B7) ∨ b = B8), Z, chs, q⟩) (by simp) hs (lo_lt hL _) (by intro p hp; simp only [List.mem_cons, List.not_mem_nil, or_false] at hp; rcases hp with rfl | rfl | rfl; exact .inl (.inr rfl); exact .inr ⟨.inr rfl, hc1, hc2⟩; exact .inl (.inl (.inr rfl))) hh rr
  refine goes_join (n := 6) (m := 0) dm_nil (ROf.refl _ _) ?_
  walk_nrm
  u_c stepG_region_end fm hF
  u_reg fm hF
  u_op fm hF
  refine Goes.stop (fun w₁ h₁ => ?_)
  replace hF := fm hF h₁
  clear h₁
  refine Goes.stop (fun w₁ h₁ => ?_)
  replace hF := fm hF h₁
  clear h₁
  clear fm
  have hb2 := hF.1.lo (B2, .cells (VL Lv) 30) (by simp)
  have hb3 := hF.1.lo (B3, .cells (VL Lp) 33) (by simp)
  have hb7 := hF.1.objs (B7, .cells #[.int .i64 (r : Int)] 3) (by simp)
  have hb8 := hF.1.objs (B8, .cells #[.chan (some c)] 45) (by simp)
  have hbc := hF.1.objs (c, .chan 6 #[] false 0 0 false) (by simp)
  have ng : ∀ b, w0.heap.size ≤ b → b < wg → ¬ (grp b ∨ b = c) := fun b h1 h2 h => h.elim (fun x => hI.gb _ x ⟨h1, h2⟩) fun e => by omega
  have n7' : ¬ (grp B7 ∨ B7 = c) := fun h => h.elim n7 fun e => by omega
  refine ⟨rfl, .go _ (born Try.prog (call21 wg B2 B7 B3 B8)) (fun b => b = B2 ∨ b = B7 ∨ b = B3 ∨ b = B8) c 9 (sents Lv Lp r 0 6) (fun b => b = B4 ∨ b = B5) rfl rfl (goSpawn rfl rfl (by k_ne) rfl rfl) rfl (fun b h => .inl (.inl h)) ?_ hbc (.inr rfl) hc1 hc2 (by simp [sents]) (by omega) (by simp only; omega) (works hLv hLp (by omega) ⟨hb2, hb7, hb3, hb8, hF.2, .inl rfl, .inr (.inl rfl), .inr (.inr (.inl rfl)), .inr (.inr (.inr rfl))⟩) ?_⟩
  · rintro b (rfl | rfl | rfl | rfl)
    · exact ⟨hZ.1, by omega, ng _ (by omega) (by omega), .inl (show _ < wg by omega), _, _, _, hb2⟩
    · exact ⟨hZ.2.2 _ (by omega), by omega, n7', .inr (.inl (.inr rfl)), _, _, _, hb7⟩
    · exact ⟨hZ.2.1, by omega, ng _ (by omega) (by omega), .inl (show _ < wg by omega), _, _, _, hb3⟩
    · exact ⟨hZ.2.2 _ (by omega), by omega, n8, .inr (.inr rfl), _, _, _, hb8⟩
  have hI' := hI.grow (c := c) hs (by omega) hc1
  rw [hc] at hI'
  replace hF : KF w0 (loB B2 B3 B4 B5 Lv Lp z (cl ++ [c])) [] (fun b => grp b ∨ b = c) w₁ ∧ WgLive 55 wg w₁ := ⟨hF.1.drop (by simp), hF.2⟩
  clear hb2 hb3 hb7 hb8 hbc ng n7' n7 n8 hc1
  have fm : ∀ {w w₁ : World}, KF w0 (loB B2 B3 B4 B5 Lv Lp z (cl ++ [c])) [] (fun b => grp b ∨ b = c) w ∧ WgLive 55 wg w → ROf 55 ⟨.opn false, 0, wg, (r + 1), (gs0 + r + 1), (fun b => grp b ∨ b = c), (fun b => b = B4 ∨ b = B5), Z, (fun b => chs b ∨ b = c), (upd q c (sents Lv Lp r 0 6))⟩ w w₁ → KF w0 (loB B2 B3 B4 B5 Lv Lp z (cl ++ [c])) [] (fun b => grp b ∨ b = c) w₁ ∧ WgLive 55 wg w₁ := fun hh rr => kf_of (st := ⟨.opn false, 0, wg, (r + 1), (gs0 + r + 1), (fun b => grp b ∨ b = c), (fun b => b = B4 ∨ b = B5), Z, (fun b => chs b ∨ b = c), (upd q c (sents Lv Lp r 0 6))⟩) (by simp) hs (lo_lt hL _) (by simp) hh rr
  refine ⟨7 + 14, ?_⟩
  have hwr : IntKind.i64.wrap ((r : Int) + 1) = ((r + 1 : Nat) : Int) := by rw [wrap_i64_of _ (by omega) (by omega)]; omega
  have ihk := ih (r + 1) (cl ++ [c]) (fun b => grp b ∨ b = c) (fun b => chs b ∨ b = c) (upd q c (sents Lv Lp r 0 6))
  clear ih hend
  simp only [LM1, RM1, bodyM, Try.f14, Option.getD_some] at ihk ⊢
  refine goes_join (n := 7) (m := 14) dm_nil (ROf.refl _ _) ?_
  walk_nrm
  u_c stepG_region_end fm hF
  u_c stepG_inBlock fm hF
  u_reg fm hF
  u_op fm hF
  u_op fm hF
  u_c stepG_region_end fm hF
  u_c stepG_inLoop fm hF
  refine Goes.stop (fun w₁ h₁ => ?_)
  replace hF := fm hF h₁
  clear h₁
  exact ihk _ _ _ _ _ _ _ _ _ _ _ _ (by omega) (by simp [hc]) hI' hF

end

end Go.Proofs.Ytiodikflmijhkaa
/- The starter takes what its workers send. -/
set_option linter.unusedSectionVars false
set_option linter.unusedVariables false
set_option linter.unusedSimpArgs false
namespace Go.Proofs.Ytiodikflmijhkaa
open Go.Conc Go.ConcN Go.RowKit Go.Conc.Lib Go.ConcR.Gen Go.ConcN.Gen Farm
open Go.ConcR (KK wgBlock WgAt stA smA rd wr mk Payload Aside2 DC0)

noncomputable def LM2 : Code := match RM1 with | .seq _ (.seq (.seq _ (.block _ (.loop b))) _) => b | _ => .skip
noncomputable def RM2 : Code := match RM1 with | .seq _ (.seq _ r) => r | _ => .skip
noncomputable def LM3 : Code := match LM2 with | .seq _ (.seq _ (.seq (.block _ (.seq _ (.seq _ (.block _ (.loop b))))) _)) => b | _ => .skip
noncomputable def RM3 : Code := match LM2 with | .seq _ (.seq _ (.seq _ r)) => r | _ => .skip

/-- One number is laid where it goes. -/
def putL (Lv Lp L : List Int) (i : Nat) : List Int := L.set (Lp.getD i 0).toNat (Lv.getD i 0)
def rowL (Lv Lp acc : List Int) (j k : Nat) : List Int := (List.range k).foldl (fun L i => putL Lv Lp L (4 * i + j)) acc
theorem rowL_succ (Lv Lp acc : List Int) (j k : Nat) : rowL Lv Lp acc j (k + 1) = putL Lv Lp (rowL Lv Lp acc j k) (4 * k + j) := by simp [rowL, List.range_succ, List.foldl_append]
theorem rowL_len (Lv Lp acc : List Int) (j k : Nat) : (rowL Lv Lp acc j k).length = acc.length := by
  induction k with
  | zero => rfl
  | succ k ih => rw [rowL_succ, putL, List.length_set, ih]
theorem VL_put (L : List Int) (n : Nat) (x : Int) : (VL L).setIfInBounds n (.int .i64 x) = VL (L.set n x) := by
  simp [VL, List.map_set]

section
variable {P : Program} {b : Frame} {a : Act} {k : List Item} {cs : List Frame} {w : World} {ops : Array Oper} {i : Nat} {rest : List Nat} {o : Oper}
theorem recvd_t (v : Value) (ok : Bool) : Conc.recvd true v ok = .tuple #[v, .bool ok] := rfl
theorem served_G (v : Value) : Conc.served (G (b.at a (.inRegion ops (i :: rest) :: k)) cs) v = G (b.at (a.put ((ops[i]?).bind (·.dst)) v) (.inRegion ops rest :: k)) cs := by
  show G ((b.at a (.inRegion ops (i :: rest) :: k)).finish v) cs = _
  rw [Frame.finish_at]
theorem stepG_recv {t e : TypeId} {x : Operand} {c : Nat} {dir : ChanDir} {z : Value} (ho : ops[i]? = some o) (hw : Region.wanted o (yielded ops a.tmps) = true) (hk : b.kind ≠ .early) (hop : o.op = .recv t x true) (hx : a.eval x = .chan (some c))
    (ht : P.underlying t = some (.chan dir e)) (hz : ∀ w, (zeroValue e).run P w = .ok z w) :
    stepG P true (G (b.at a (.inRegion ops (i :: rest) :: k)) cs) w = .comm (G (b.at a (.inRegion ops (i :: rest) :: k)) cs) #[rcase c z] true (.recv true) w #[] := by
  have h1 : (execOp a.eval o).run P w = .ok (.comm #[rcase c z] true (.recv true)) w := by
    unfold execOp
    simp only [hop, hx]
    simp [go_sem, rcase, run_underlying ht, hz]
  have h2 : (execOp a.eval o).events P w #[] = #[] := by
    unfold execOp
    simp only [hop, hx]
    simp [go_sem, rcase, run_underlying ht, hz]
  rw [stepG_comm ho hw hk h1, Farm.listed_nil h2]
end

section
variable {Post : MSt → Goroutine → World → Prop} {w0 : World} {B2 B3 B4 B5 B9 wg : Nat} {Lv Lp acc : List Int} {z : Array Value} {Z grp chs may : Nat → Prop} {q0 : Nat → List Value} {gs0 j c : Nat} {cl : List Nat} {cs : List Frame}

set_option maxRecDepth 100000 in
set_option maxHeartbeats 16000000 in
/-- ████ FROM ONE WORKER, UNTIL ITS CHANNEL IS CLOSED. ████ -/
theorem recvLoop (hL : Lay w0 B2 B3 B4 B5 wg) (hB9 : wg < B9) (hgw : grp wg) (hLp : Lp.length = 24) (hp : ∀ x ∈ Lp, 0 ≤ x ∧ x < 24) (hacc : acc.length = 24) (hj : j < 4) (hcc : chs c) {N : Nat}
    (hend : ∀ (may : Nat → Prop) q w v7 v8 v12 v13 v14 v15 v16 v17 v18 v19 v20 v21 v22 v25 v26 v28 v29 v30 v31 v32 v33 v34 v35 v36, (may B9 ∧ ∀ b, may b → ¬ grp b) → q c = [] → (∀ x, x ≠ c → q x = q0 x) → KF w0 (loB B2 B3 B4 B5 Lv Lp z cl) [(B9, .cells (VL (rowL Lv Lp acc j 6)) 30)] grp w ∧ WgLive 55 wg w →
      Goes Try.prog true (ROf 55 ⟨.opn false, 0, wg, 4, (gs0 + 4), grp, may, Z, chs, q⟩) (DM ⟨.opn false, 0, wg, 4, (gs0 + 4), grp, may, Z, chs, q⟩) (fun g w => g.status = .running ∧ MStop Try.prog 55 Post (Sc Try.prog 55 Post (N)) ⟨.opn false, 0, wg, 4, (gs0 + 4), grp, may, Z, chs, q⟩ g w) 60 (G (b14.at ⟨#[.agg (VL Lv), .agg (VL Lp), .pointer (some ⟨B2, 0, none⟩), .pointer (some ⟨B3, 0, none⟩), .pointer (some ⟨B4, 0, none⟩), .pointer (some ⟨B5, 0, none⟩), .pointer (some ⟨wg, 0, none⟩), v7, v8, .pointer (some ⟨B9, 0, none⟩), undef, .chan (some c), v12, v13, v14, v15, v16, v17, v18, v19, v20, v21, v22, .agg (chA cl), .int .i64 (j : Int), v25, v26, .chan (some c), v28, v29, v30, v31, v32, v33, v34, v35, v36, undef, undef], []⟩ [.code RM3, .inLoop LM2, .inBlock 2, .code RM2]) cs) w) :
    ∀ n k (may : Nat → Prop) q w v7 v8 v12 v13 v14 v15 v16 v17 v18 v19 v20 v21 v22 v25 v26 v28 v29 v30 v31 v32 v33 v34 v35 v36, k + n = 6 → (may B9 ∧ ∀ b, may b → ¬ grp b) → q c = sents Lv Lp j k n → (∀ x, x ≠ c → q x = q0 x) → KF w0 (loB B2 B3 B4 B5 Lv Lp z cl) [(B9, .cells (VL (rowL Lv Lp acc j k)) 30)] grp w ∧ WgLive 55 wg w →
      Goes Try.prog true (ROf 55 ⟨.opn false, 0, wg, 4, (gs0 + 4), grp, may, Z, chs, q⟩) (DM ⟨.opn false, 0, wg, 4, (gs0 + 4), grp, may, Z, chs, q⟩) (fun g w => g.status = .running ∧ MStop Try.prog 55 Post (Sc Try.prog 55 Post (N + 1 + 2 * n)) ⟨.opn false, 0, wg, 4, (gs0 + 4), grp, may, Z, chs, q⟩ g w) 14 (G (b14.at ⟨#[.agg (VL Lv), .agg (VL Lp), .pointer (some ⟨B2, 0, none⟩), .pointer (some ⟨B3, 0, none⟩), .pointer (some ⟨B4, 0, none⟩), .pointer (some ⟨B5, 0, none⟩), .pointer (some ⟨wg, 0, none⟩), v7, v8, .pointer (some ⟨B9, 0, none⟩), undef, .chan (some c), v12, v13, v14, v15, v16, v17, v18, v19, v20, v21, v22, .agg (chA cl), .int .i64 (j : Int), v25, v26, .chan (some c), v28, v29, v30, v31, v32, v33, v34, v35, v36, undef, undef], []⟩ (.code LM3 :: [.inLoop LM3, .inBlock 4, .inBlock 3, .code RM3, .inLoop LM2, .inBlock 2, .code RM2])) cs) w := by
  intro n
  induction n with
  | zero =>
    intro k may q w v7 v8 v12 v13 v14 v15 v16 v17 v18 v19 v20 v21 v22 v25 v26 v28 v29 v30 v31 v32 v33 v34 v35 v36 hk hm hq hq0 hF
    obtain rfl : k = 6 := by omega
    have hs := hL.le
    have fm : ∀ {w w₁ : World}, KF w0 (loB B2 B3 B4 B5 Lv Lp z cl) [(B9, .cells (VL (rowL Lv Lp acc j 6)) 30)] grp w ∧ WgLive 55 wg w → ROf 55 ⟨.opn false, 0, wg, 4, (gs0 + 4), grp, may, Z, chs, q⟩ w w₁ → KF w0 (loB B2 B3 B4 B5 Lv Lp z cl) [(B9, .cells (VL (rowL Lv Lp acc j 6)) 30)] grp w₁ ∧ WgLive 55 wg w₁ := fun hh rr => kf_of (st := ⟨.opn false, 0, wg, 4, (gs0 + 4), grp, may, Z, chs, q⟩) (by simp) hs (lo_lt hL _) (by intro p hp; simp only [List.mem_cons, List.not_mem_nil, or_false] at hp; subst hp; exact .inl hm.1) hh rr
    have hend := hend may q
    simp only [LM3, RM3, LM2, RM2, RM1, bodyM, Try.f14, Option.getD_some] at hend ⊢
    refine goes_join (n := 14) (m := 0) dm_nil (ROf.refl _ _) ?_
    u_c stepG_seq fm hF
    u_reg fm hF
    refine Goes.stop (fun w₁ h₁ => ?_)
    replace hF := fm hF h₁
    clear h₁
    refine Goes.stop (fun w₁ h₁ => ?_)
    replace hF := fm hF h₁
    clear h₁
    refine ⟨rfl, .recv c (.agg #[.int .i64 0, .int .i64 0]) _ rfl rfl hcc ⟨rfl, rfl, rfl, rfl, fun w₁ _ => ⟨#[], stepG_recv (t := 45) (e := 59) rfl rfl (by k_ne) rfl rfl Try.underlying45 Try.zeroValue59, by simp⟩, fun v rr hv => ?_, fun hv => ?_⟩⟩
    · exact nomatch (show ([] : List Value) = v :: rr from hq.symm.trans hv)
    rw [served_G, recvd_t]
    refine ⟨8 + 60, ?_⟩
    refine goes_join (n := 8) (m := 60) dm_nil (ROf.refl _ _) ?_
    walk_nrm
    u_op fm hF
    u_c stepG_region_end fm hF
    u_c stepG_seq fm hF
    u_cond false fm hF
    u_exit fm hF
    u_c stepG_inBlock fm hF
    refine Goes.stop (fun w₁ h₁ => ?_)
    replace hF := fm hF h₁
    clear h₁
    exact hend _ _ _ _ _ _ _ _ _ _ _ _ _ _ _ _ _ _ _ _ _ _ _ _ _ hm (by rw [hq]; rfl) hq0 hF
  | succ n ih =>
  intro k may q w v7 v8 v12 v13 v14 v15 v16 v17 v18 v19 v20 v21 v22 v25 v26 v28 v29 v30 v31 v32 v33 v34 v35 v36 hk hm hq hq0 hF
  have hs := hL.le
  have hle : w0.heap.size ≤ B2 ∧ B2 < B3 ∧ B3 < B4 ∧ B4 < B5 ∧ B5 < wg := by have h2 := hL.h2; have h3 := hL.h3; have h4 := hL.h4; have h5 := hL.h5; have hw := hL.hw; omega
  rw [show N + 1 + 2 * (n + 1) = N + 1 + 2 * n + 1 + 1 by omega]
  have fm : ∀ {w w₁ : World}, KF w0 (loB B2 B3 B4 B5 Lv Lp z cl) [(B9, .cells (VL (rowL Lv Lp acc j k)) 30)] grp w ∧ WgLive 55 wg w → ROf 55 ⟨.opn false, 0, wg, 4, (gs0 + 4), grp, may, Z, chs, q⟩ w w₁ → KF w0 (loB B2 B3 B4 B5 Lv Lp z cl) [(B9, .cells (VL (rowL Lv Lp acc j k)) 30)] grp w₁ ∧ WgLive 55 wg w₁ := fun hh rr => kf_of (st := ⟨.opn false, 0, wg, 4, (gs0 + 4), grp, may, Z, chs, q⟩) (by simp) hs (lo_lt hL _) (by intro p hp; simp only [List.mem_cons, List.not_mem_nil, or_false] at hp; subst hp; exact .inl hm.1) hh rr
  have ihk := ih (k + 1)
  clear ih hend
  simp only [LM3, RM3, LM2, RM2, RM1, bodyM, Try.f14, Option.getD_some] at ihk ⊢
  refine goes_join (n := 14) (m := 0) dm_nil (ROf.refl _ _) ?_
  u_c stepG_seq fm hF
  u_reg fm hF
  refine Goes.stop (fun w₁ h₁ => ?_)
  replace hF := fm hF h₁
  clear h₁
  refine Goes.stop (fun w₁ h₁ => ?_)
  replace hF := fm hF h₁
  clear h₁
  refine ⟨rfl, .recv c (.agg #[.int .i64 0, .int .i64 0]) _ rfl rfl hcc ⟨rfl, rfl, rfl, rfl, fun w₁ _ => ⟨#[], stepG_recv (t := 45) (e := 59) rfl rfl (by k_ne) rfl rfl Try.underlying45 Try.zeroValue59, by simp⟩, fun v rr hv => ?_, fun hv => ?_⟩⟩
  rotate_left
  · exact nomatch (show _ :: _ = ([] : List Value) from ((sents_succ Lv Lp j k n).symm.trans (hq.symm.trans hv)))
  rw [served_G, recvd_t]
  obtain ⟨rfl, rfl⟩ : sentv Lv Lp j k = v ∧ sents Lv Lp j (k + 1) n = rr := by
    have := hq.symm.trans hv
    rw [sents_succ] at this
    exact List.cons.inj this
  unfold sentv
  have hx4 : 4 * k + j < 24 := by omega
  obtain ⟨x, hx⟩ : ∃ x, Lv.getD (4 * k + j) 0 = x := ⟨_, rfl⟩
  obtain ⟨y, hy⟩ : ∃ y, Lp.getD (4 * k + j) 0 = y := ⟨_, rfl⟩
  have hyr : 0 ≤ y ∧ y < 24 := by
    rw [← hy, List.getD_eq_getElem?_getD, List.getElem?_eq_getElem (by omega)]
    exact hp _ (List.getElem_mem _)
  have hrow : (rowL Lv Lp acc j k).set y.toNat x = rowL Lv Lp acc j (k + 1) := by rw [rowL_succ, putL, hx, hy]
  rw [hx, hy]
  clear hx hy hq hv fm
  have fm : ∀ {w w₁ : World}, KF w0 (loB B2 B3 B4 B5 Lv Lp z cl) [(B9, .cells (VL (rowL Lv Lp acc j k)) 30)] grp w ∧ WgLive 55 wg w → ROf 55 ⟨.opn false, 0, wg, 4, (gs0 + 4), grp, may, Z, chs, (upd q c (sents Lv Lp j (k + 1) n))⟩ w w₁ → KF w0 (loB B2 B3 B4 B5 Lv Lp z cl) [(B9, .cells (VL (rowL Lv Lp acc j k)) 30)] grp w₁ ∧ WgLive 55 wg w₁ := fun hh rr => kf_of (st := ⟨.opn false, 0, wg, 4, (gs0 + 4), grp, may, Z, chs, (upd q c (sents Lv Lp j (k + 1) n))⟩) (by simp) hs (lo_lt hL _) (by intro p hp; simp only [List.mem_cons, List.not_mem_nil, or_false] at hp; subst hp; exact .inl hm.1) hh rr
  refine ⟨10 + 0, ?_⟩
  refine goes_join (n := 10) (m := 0) dm_nil (ROf.refl _ _) ?_
  walk_nrm
  u_op fm hF
  u_c stepG_region_end fm hF
  u_c stepG_seq fm hF
  u_cond true fm hF
  u_c stepG_skip fm hF
  u_c stepG_block fm hF
  u_c stepG_seq fm hF
  u_reg fm hF
  u_op fm hF
  refine Goes.stop (fun w₁ h₁ => ?_)
  replace hF := fm hF h₁
  clear h₁
  refine Goes.stop (fun w₁ h₁ => ?_)
  replace hF := fm hF h₁
  clear h₁
  clear fm
  have hsz := live_lt hF.2
  have h9 := hF.1.objs (B9, .cells (VL (rowL Lv Lp acc j k)) 30) (by simp)
  have h9lt : B9 < w₁.heap.size := lt_of_some' h9
  clear h9
  refine ⟨rfl, mstop_alloc rfl rfl (by k_ne) rfl Try.zeroValue59 ?_⟩
  have n12 : ¬ grp w₁.heap.size := fun h => Nat.lt_irrefl _ (hF.1.gl _ h)
  replace hF : KF w0 (loB B2 B3 B4 B5 Lv Lp z cl) [(w₁.heap.size, .cells #[.int .i64 0, .int .i64 0] 59), (B9, .cells (VL (rowL Lv Lp acc j k)) 30)] grp (w₁.alloc (.cells #[.int .i64 0, .int .i64 0] 59)) ∧ WgLive 55 wg (w₁.alloc (.cells #[.int .i64 0, .int .i64 0] 59)) := ⟨hF.1.alloc (by omega) _, live_alloc' hF.2⟩
  revert hF n12 h9lt hsz
  show _ → _ → _ → _ → Sc Try.prog _ _ _ _ _ (w₁.alloc (.cells #[.int .i64 0, .int .i64 0] 59))
  generalize w₁.alloc (.cells #[.int .i64 0, .int .i64 0] 59) = w₂
  generalize w₁.heap.size = B12
  intro hsz h9lt n12 hF
  have n9 : ¬ grp B9 := hm.2 _ hm.1
  have fm : ∀ {w w₁ : World}, KF w0 (loB B2 B3 B4 B5 Lv Lp z cl) [(B12, .cells #[.int .i64 0, .int .i64 0] 59), (B9, .cells (VL (rowL Lv Lp acc j k)) 30)] grp w ∧ WgLive 55 wg w → ROf 55 ⟨.opn false, 0, wg, 4, (gs0 + 4), grp, (fun b => may b ∨ b = B12), Z, chs, (upd q c (sents Lv Lp j (k + 1) n))⟩ w w₁ → KF w0 (loB B2 B3 B4 B5 Lv Lp z cl) [(B12, .cells #[.int .i64 0, .int .i64 0] 59), (B9, .cells (VL (rowL Lv Lp acc j k)) 30)] grp w₁ ∧ WgLive 55 wg w₁ := fun hh rr => kf_of (st := ⟨.opn false, 0, wg, 4, (gs0 + 4), grp, (fun b => may b ∨ b = B12), Z, chs, (upd q c (sents Lv Lp j (k + 1) n))⟩) (by simp) hs (lo_lt hL _) (by intro p hp; simp only [List.mem_cons, List.not_mem_nil, or_false] at hp; rcases hp with rfl | rfl; exact .inl (.inr rfl); exact .inl (.inl hm.1)) hh rr
  walk_nrm
  refine ⟨1 + (4 + (1 + (1 + (1 + (1 + (1 + (6 + 14))))))), ?_⟩
  refine Goes.step rfl (fun w₁ h₁ => ?_)
  replace hF := fm hF h₁
  clear h₁
  clear fm
  have h12 := hF.1.objs (B12, .cells #[.int .i64 0, .int .i64 0] 59) (by simp)
  refine goes_ex (stepG_storeR (vs := #[.int .i64 x, .int .i64 y]) rfl rfl (by k_ne) rfl rfl rfl h12 (by rfl) rfl (by simp [Value.oneCell']) Try.sizeOf59) fun es hes => ⟨dm_setRow hes (.inr rfl) n12 (lt_of_some' h12), ?_⟩
  clear es hes
  have ht := turn_row (vs := #[.int .i64 x, .int .i64 y]) h12
  replace hF : KF w0 (loB B2 B3 B4 B5 Lv Lp z cl) [(B12, .cells #[.int .i64 x, .int .i64 y] 59), (B9, .cells (VL (rowL Lv Lp acc j k)) 30)] grp (w₁.setRow B12 #[.int .i64 x, .int .i64 y]) ∧ WgLive 55 wg (w₁.setRow B12 #[.int .i64 x, .int .i64 y]) :=
    ⟨hF.1.turn ht.1 ht.2.1 ht.2.2 (by omega) (fun p hp => by
      simp only [List.mem_cons, List.not_mem_nil, or_false] at hp ⊢
      rcases hp with rfl | rfl
      · exact .inl rfl
      · exact .inr ⟨.inr rfl, by simp only; omega⟩) fun p hp => .inr ⟨hp, by have := lo_lt hL _ p hp; omega⟩, live_turn ht.2.1 (by omega) hF.2⟩
  clear h12 ht
  generalize w₁.setRow _ _ = w₂ at hF ⊢
  have fm : ∀ {w w₁ : World}, KF w0 (loB B2 B3 B4 B5 Lv Lp z cl) [(B12, .cells #[.int .i64 x, .int .i64 y] 59), (B9, .cells (VL (rowL Lv Lp acc j k)) 30)] grp w ∧ WgLive 55 wg w → ROf 55 ⟨.opn false, 0, wg, 4, (gs0 + 4), grp, (fun b => may b ∨ b = B12), Z, chs, (upd q c (sents Lv Lp j (k + 1) n))⟩ w w₁ → KF w0 (loB B2 B3 B4 B5 Lv Lp z cl) [(B12, .cells #[.int .i64 x, .int .i64 y] 59), (B9, .cells (VL (rowL Lv Lp acc j k)) 30)] grp w₁ ∧ WgLive 55 wg w₁ := fun hh rr => kf_of (st := ⟨.opn false, 0, wg, 4, (gs0 + 4), grp, (fun b => may b ∨ b = B12), Z, chs, (upd q c (sents Lv Lp j (k + 1) n))⟩) (by simp) hs (lo_lt hL _) (by intro p hp; simp only [List.mem_cons, List.not_mem_nil, or_false] at hp; rcases hp with rfl | rfl; exact .inl (.inr rfl); exact .inl (.inl hm.1)) hh rr
  refine goes_join (n := 4) (m := 25) dm_nil (ROf.refl _ _) ?_
  walk_nrm
  u_c stepG_region_end fm hF
  u_reg fm hF
  u_op fm hF
  refine Goes.stop (fun w₁ h₁ => ?_)
  replace hF := fm hF h₁
  clear h₁
  refine Goes.step rfl (fun w₁ h₁ => ?_)
  replace hF := fm hF h₁
  clear h₁
  have h12 := hF.1.objs (B12, .cells #[.int .i64 x, .int .i64 y] 59) (by simp)
  refine goes_ex (stepG_load1 (ty := 3) (ad := ⟨B12, 1, none⟩) (v := .int .i64 y) rfl rfl (by k_ne) rfl rfl (_root_.Go.Lib.cell_of_heap h12 1) Try.isAgg3) fun es hes => ⟨dm_read hes n12 (lt_of_some' h12), ?_⟩
  clear es hes h12
  refine goes_join (n := 1) (m := 23) dm_nil (ROf.refl _ _) ?_
  walk_nrm
  u_op fm hF
  refine Goes.stop (fun w₁ h₁ => ?_)
  replace hF := fm hF h₁
  clear h₁
  refine Goes.step rfl (fun w₁ h₁ => ?_)
  replace hF := fm hF h₁
  clear h₁
  have h12 := hF.1.objs (B12, .cells #[.int .i64 x, .int .i64 y] 59) (by simp)
  refine goes_ex (stepG_load1 (ty := 3) (ad := ⟨B12, 0, none⟩) (v := .int .i64 x) rfl rfl (by k_ne) rfl rfl (_root_.Go.Lib.cell_of_heap h12 0) Try.isAgg3) fun es hes => ⟨dm_read hes n12 (lt_of_some' h12), ?_⟩
  clear es hes h12
  walk_nrm
  refine Goes.step rfl (fun w₁ h₁ => ?_)
  replace hF := fm hF h₁
  clear h₁
  have hyn : ((y.toNat : Nat) : Int) = y := Int.toNat_of_nonneg hyr.1
  have hyl : y.toNat < 24 := by omega
  have ir := idx_v B9 y.toNat hyl w₁
  have ie := idx_v_ev B9 y.toNat hyl w₁
  rw [hyn] at ir ie
  rw [stepG_idx (g := B9) (n := y.toNat) (v := .int .i64 y) rfl rfl (by k_ne) rfl rfl rfl (by rw [ir, add0]) (ie _)]
  simp only [goes_go]
  refine ⟨dm_nil _, ?_⟩
  clear ir ie
  walk_nrm
  refine Goes.step rfl (fun w₁ h₁ => ?_)
  replace hF := fm hF h₁
  clear h₁
  clear fm
  have h9 := hF.1.objs (B9, .cells (VL (rowL Lv Lp acc j k)) 30) (by simp)
  have hrl : y.toNat < (rowL Lv Lp acc j k).length := by rw [rowL_len]; omega
  refine goes_ex (stepG_store1 (v := .int .i64 x) (ad := ⟨B9, y.toNat, none⟩) rfl rfl (by k_ne) rfl rfl rfl rfl (VL_at _ hrl h9) (_root_.Go.Lib.frozen_of_heap h9 _) Try.sizeOf3) fun es hes => ⟨dm_set hes (.inl hm.1) n9 (lt_of_some' h9), ?_⟩
  clear es hes
  have ht := turn_cell (j := y.toNat) (v := .int .i64 x) h9
  rw [VL_put, hrow] at ht
  replace hF : KF w0 (loB B2 B3 B4 B5 Lv Lp z cl) [(B9, .cells (VL (rowL Lv Lp acc j (k + 1))) 30)] grp (w₁.setCell ⟨B9, y.toNat, none⟩ (.int .i64 x)) ∧ WgLive 55 wg (w₁.setCell ⟨B9, y.toNat, none⟩ (.int .i64 x)) :=
    ⟨hF.1.turn ht.1 ht.2.1 ht.2.2 (by omega) (fun p hp => .inl (by simpa using hp)) fun p hp => .inr ⟨hp, by have := lo_lt hL _ p hp; omega⟩, live_turn ht.2.1 (by omega) hF.2⟩
  clear h9 ht
  generalize w₁.setCell _ _ = w₂ at hF ⊢
  have fm : ∀ {w w₁ : World}, KF w0 (loB B2 B3 B4 B5 Lv Lp z cl) [(B9, .cells (VL (rowL Lv Lp acc j (k + 1))) 30)] grp w ∧ WgLive 55 wg w → ROf 55 ⟨.opn false, 0, wg, 4, (gs0 + 4), grp, (fun b => may b ∨ b = B12), Z, chs, (upd q c (sents Lv Lp j (k + 1) n))⟩ w w₁ → KF w0 (loB B2 B3 B4 B5 Lv Lp z cl) [(B9, .cells (VL (rowL Lv Lp acc j (k + 1))) 30)] grp w₁ ∧ WgLive 55 wg w₁ := fun hh rr => kf_of (st := ⟨.opn false, 0, wg, 4, (gs0 + 4), grp, (fun b => may b ∨ b = B12), Z, chs, (upd q c (sents Lv Lp j (k + 1) n))⟩) (by simp) hs (lo_lt hL _) (by intro p hp; simp only [List.mem_cons, List.not_mem_nil, or_false] at hp; subst hp; exact .inl (.inl hm.1)) hh rr
  refine goes_join (n := 6) (m := 14) dm_nil (ROf.refl _ _) ?_
  walk_nrm
  u_c stepG_region_end fm hF
  u_c stepG_inBlock fm hF
  u_c stepG_inLoop fm hF
  refine Goes.stop (fun w₁ h₁ => ?_)
  replace hF := fm hF h₁
  clear h₁
  exact ihk (fun b => may b ∨ b = B12) _ _ _ _ _ _ _ _ _ _ _ _ _ _ _ _ _ _ _ _ _ _ _ _ _ _ (by omega) ⟨.inl hm.1, fun b hb => hb.elim (hm.2 b) fun e => by rw [e]; exact n12⟩ (by rw [upd_same]) (fun x hx => by rw [upd_ne _ _ hx]; exact hq0 x hx) hF

end

end Go.Proofs.Ytiodikflmijhkaa
/- The starter takes what its workers send, one after another. -/
set_option linter.unusedSectionVars false
set_option linter.unusedVariables false
set_option linter.unusedSimpArgs false
namespace Go.Proofs.Ytiodikflmijhkaa
open Go.Conc Go.ConcN Go.RowKit Go.Conc.Lib Go.ConcR.Gen Go.ConcN.Gen Farm
open Go.ConcR (KK wgBlock WgAt stA smA rd wr mk Payload Aside2 DC0)

def accL (Lv Lp : List Int) (j : Nat) : List Int := (List.range j).foldl (fun L i => rowL Lv Lp L i 6) (List.replicate 24 0)
/-- What 'moved' returns. -/
def mvL (Lv Lp : List Int) : List Int := accL Lv Lp 4
theorem accL_succ (Lv Lp : List Int) (j : Nat) : accL Lv Lp (j + 1) = rowL Lv Lp (accL Lv Lp j) j 6 := by simp [accL, List.range_succ, List.foldl_append]
theorem accL_len (Lv Lp : List Int) (j : Nat) : (accL Lv Lp j).length = 24 := by
  induction j with
  | zero => rfl
  | succ j ih => rw [accL_succ, rowL_len, ih]
theorem chA_get {cl : List Nat} (h4 : cl.length = 4) {j c : Nat} (hc : cl[j]? = some c) (W : World) : (Instr.index 46 (.agg (chA cl)) (.int .i64 (j : Int))).run Try.prog W = .ok (.chan (some c)) W := by
  obtain ⟨c0, c1, c2, c3, rfl⟩ : ∃ c0 c1 c2 c3, cl = [c0, c1, c2, c3] := by
    match cl, h4 with
    | [a, b, c, d], _ => exact ⟨a, b, c, d, rfl⟩
  match j, hc with
  | 0, hc => cases hc; exact (show _ = _ by kernel_rfl)
  | 1, hc => cases hc; exact (show _ = _ by kernel_rfl)
  | 2, hc => cases hc; exact (show _ = _ by kernel_rfl)
  | 3, hc => cases hc; exact (show _ = _ by kernel_rfl)
  | n + 4, hc => simp at hc
theorem chA_ev {cl : List Nat} (h4 : cl.length = 4) {j c : Nat} (hc : cl[j]? = some c) (W : World) : (Instr.index 46 (.agg (chA cl)) (.int .i64 (j : Int))).events Try.prog W #[] = #[] := by
  obtain ⟨c0, c1, c2, c3, rfl⟩ : ∃ c0 c1 c2 c3, cl = [c0, c1, c2, c3] := by
    match cl, h4 with
    | [a, b, c, d], _ => exact ⟨a, b, c, d, rfl⟩
  match j, hc with
  | 0, hc => exact (show _ = _ by kernel_rfl)
  | 1, hc => exact (show _ = _ by kernel_rfl)
  | 2, hc => exact (show _ = _ by kernel_rfl)
  | 3, hc => exact (show _ = _ by kernel_rfl)
  | n + 4, hc => simp at hc

section
variable {P : Program} {b : Frame} {a : Act} {k : List Item} {cs : List Frame} {w : World} {ops : Array Oper} {i : Nat} {rest : List Nat} {o : Oper}
theorem stepG_at {t : TypeId} {x y : Operand} {u v r : Value} (ho : ops[i]? = some o) (hw : Region.wanted o (yielded ops a.tmps) = true) (hk : b.kind ≠ .early) (hop : o.op = .index t x y) (hx : a.eval x = u) (hy : a.eval y = v)
    (hr : (Instr.index t u v).run P w = .ok r w) (hv : (Instr.index t u v).events P w #[] = #[]) {main : Bool} :
    stepG P main (G (b.at a (.inRegion ops (i :: rest) :: k)) cs) w = .go (G (b.at (a.put o.dst r) (.inRegion ops rest :: k)) cs) w #[] := by
  have he : execOp a.eval o = (do pure (.value (← Instr.index t u v)) : Sem Next) := by unfold execOp; simp only [hop, hx, hy]
  rw [stepG_value ho hw hk (v := r) (w' := w) (by rw [he, Sem.run_bind, hr]; rfl), Farm.listed_nil (by rw [he, Sem.events_bind, hr]; simp only [hv]; rfl)]
end

section
variable {Post : MSt → Goroutine → World → Prop} {w0 : World} {B2 B3 B4 B5 B9 wg : Nat} {Lv Lp : List Int} {z : Array Value} {Z grp chs may : Nat → Prop} {gs0 : Nat} {cl : List Nat} {cs : List Frame}

set_option maxRecDepth 100000 in
set_option maxHeartbeats 16000000 in
/-- ████ FROM ALL WORKERS. ████ -/
theorem rowsLoop (hL : Lay w0 B2 B3 B4 B5 wg) (hB9 : wg < B9) (hgw : grp wg) (hLp : Lp.length = 24) (hp : ∀ x ∈ Lp, 0 ≤ x ∧ x < 24) (h4 : cl.length = 4) (hcc : ∀ c ∈ cl, chs c) (hnd : cl.Nodup) {N : Nat}
    (hend : ∀ (may : Nat → Prop) q w v7 v8 v11 v12 v13 v14 v15 v16 v17 v18 v19 v20 v21 v22 v25 v26 v27 v28 v29 v30 v31 v32 v33 v34 v35 v36, (may B9 ∧ ∀ b, may b → ¬ grp b) → KF w0 (loB B2 B3 B4 B5 Lv Lp z cl) [(B9, .cells (VL (accL Lv Lp 4)) 30)] grp w ∧ WgLive 55 wg w →
      Goes Try.prog true (ROf 55 ⟨.opn false, 0, wg, 4, (gs0 + 4), grp, may, Z, chs, q⟩) (DM ⟨.opn false, 0, wg, 4, (gs0 + 4), grp, may, Z, chs, q⟩) (fun g w => g.status = .running ∧ MStop Try.prog 55 Post (Sc Try.prog 55 Post (N)) ⟨.opn false, 0, wg, 4, (gs0 + 4), grp, may, Z, chs, q⟩ g w) 40 (G (b14.at ⟨#[.agg (VL Lv), .agg (VL Lp), .pointer (some ⟨B2, 0, none⟩), .pointer (some ⟨B3, 0, none⟩), .pointer (some ⟨B4, 0, none⟩), .pointer (some ⟨B5, 0, none⟩), .pointer (some ⟨wg, 0, none⟩), v7, v8, .pointer (some ⟨B9, 0, none⟩), undef, v11, v12, v13, v14, v15, v16, v17, v18, v19, v20, v21, v22, .agg (chA cl), .int .i64 (4 : Int), v25, v26, v27, v28, v29, v30, v31, v32, v33, v34, v35, v36, undef, undef], []⟩ [.code LM2, .inLoop LM2, .inBlock 2, .code RM2]) cs) w) :
    ∀ n j (may : Nat → Prop) q w v7 v8 v11 v12 v13 v14 v15 v16 v17 v18 v19 v20 v21 v22 v25 v26 v27 v28 v29 v30 v31 v32 v33 v34 v35 v36, j + n = 4 → (may B9 ∧ ∀ b, may b → ¬ grp b) → (∀ i c, cl[i]? = some c → j ≤ i → q c = sents Lv Lp i 0 6) → KF w0 (loB B2 B3 B4 B5 Lv Lp z cl) [(B9, .cells (VL (accL Lv Lp j)) 30)] grp w ∧ WgLive 55 wg w →
      Goes Try.prog true (ROf 55 ⟨.opn false, 0, wg, 4, (gs0 + 4), grp, may, Z, chs, q⟩) (DM ⟨.opn false, 0, wg, 4, (gs0 + 4), grp, may, Z, chs, q⟩) (fun g w => g.status = .running ∧ MStop Try.prog 55 Post (Sc Try.prog 55 Post (N + 13 * n)) ⟨.opn false, 0, wg, 4, (gs0 + 4), grp, may, Z, chs, q⟩ g w) 40 (G (b14.at ⟨#[.agg (VL Lv), .agg (VL Lp), .pointer (some ⟨B2, 0, none⟩), .pointer (some ⟨B3, 0, none⟩), .pointer (some ⟨B4, 0, none⟩), .pointer (some ⟨B5, 0, none⟩), .pointer (some ⟨wg, 0, none⟩), v7, v8, .pointer (some ⟨B9, 0, none⟩), undef, v11, v12, v13, v14, v15, v16, v17, v18, v19, v20, v21, v22, .agg (chA cl), .int .i64 (j : Int), v25, v26, v27, v28, v29, v30, v31, v32, v33, v34, v35, v36, undef, undef], []⟩ [.code LM2, .inLoop LM2, .inBlock 2, .code RM2]) cs) w := by
  intro n
  induction n with
  | zero =>
    intro j may q w v7 v8 v11 v12 v13 v14 v15 v16 v17 v18 v19 v20 v21 v22 v25 v26 v27 v28 v29 v30 v31 v32 v33 v34 v35 v36 hj hm hq hF
    obtain rfl : j = 4 := by omega
    exact hend may q w v7 v8 v11 v12 v13 v14 v15 v16 v17 v18 v19 v20 v21 v22 v25 v26 v27 v28 v29 v30 v31 v32 v33 v34 v35 v36 hm hF
  | succ n ih =>
  intro j may q w v7 v8 v11 v12 v13 v14 v15 v16 v17 v18 v19 v20 v21 v22 v25 v26 v27 v28 v29 v30 v31 v32 v33 v34 v35 v36 hj hm hq hF
  have hs := hL.le
  have hj4 : j < 4 := by omega
  obtain ⟨c, hc⟩ : ∃ c, cl[j]? = some c := ⟨_, List.getElem?_eq_getElem (by omega)⟩
  have hlt : ((j : Int) < 4) = True := eq_true (by omega)
  rw [show N + 13 * (n + 1) = N + 13 * n + 1 + 2 * 6 by omega]
  have fm : ∀ {w w₁ : World}, KF w0 (loB B2 B3 B4 B5 Lv Lp z cl) [(B9, .cells (VL (accL Lv Lp j)) 30)] grp w ∧ WgLive 55 wg w → ROf 55 ⟨.opn false, 0, wg, 4, (gs0 + 4), grp, may, Z, chs, q⟩ w w₁ → KF w0 (loB B2 B3 B4 B5 Lv Lp z cl) [(B9, .cells (VL (accL Lv Lp j)) 30)] grp w₁ ∧ WgLive 55 wg w₁ := fun hh rr => kf_of (st := ⟨.opn false, 0, wg, 4, (gs0 + 4), grp, may, Z, chs, q⟩) (by simp) hs (lo_lt hL _) (by intro p hp; simp only [List.mem_cons, List.not_mem_nil, or_false] at hp; subst hp; exact .inl hm.1) hh rr
  have hend' : ∀ (may' : Nat → Prop) q' w v7 v8 v12 v13 v14 v15 v16 v17 v18 v19 v20 v21 v22 v25 v26 v28 v29 v30 v31 v32 v33 v34 v35 v36, (may' B9 ∧ ∀ b, may' b → ¬ grp b) → q' c = [] → (∀ x, x ≠ c → q' x = q x) → KF w0 (loB B2 B3 B4 B5 Lv Lp z cl) [(B9, .cells (VL (rowL Lv Lp (accL Lv Lp j) j 6)) 30)] grp w ∧ WgLive 55 wg w →
      Goes Try.prog true (ROf 55 ⟨.opn false, 0, wg, 4, (gs0 + 4), grp, may', Z, chs, q'⟩) (DM ⟨.opn false, 0, wg, 4, (gs0 + 4), grp, may', Z, chs, q'⟩) (fun g w => g.status = .running ∧ MStop Try.prog 55 Post (Sc Try.prog 55 Post (N + 13 * n)) ⟨.opn false, 0, wg, 4, (gs0 + 4), grp, may', Z, chs, q'⟩ g w) 60 (G (b14.at ⟨#[.agg (VL Lv), .agg (VL Lp), .pointer (some ⟨B2, 0, none⟩), .pointer (some ⟨B3, 0, none⟩), .pointer (some ⟨B4, 0, none⟩), .pointer (some ⟨B5, 0, none⟩), .pointer (some ⟨wg, 0, none⟩), v7, v8, .pointer (some ⟨B9, 0, none⟩), undef, .chan (some c), v12, v13, v14, v15, v16, v17, v18, v19, v20, v21, v22, .agg (chA cl), .int .i64 (j : Int), v25, v26, .chan (some c), v28, v29, v30, v31, v32, v33, v34, v35, v36, undef, undef], []⟩ [.code RM3, .inLoop LM2, .inBlock 2, .code RM2]) cs) w := by
    intro may' q' w v7 v8 v12 v13 v14 v15 v16 v17 v18 v19 v20 v21 v22 v25 v26 v28 v29 v30 v31 v32 v33 v34 v35 v36 hm' hq1 hq2 hF
    have hq0 := hq
    clear hq fm
    have hwr : IntKind.i64.wrap ((j : Int) + 1) = ((j + 1 : Nat) : Int) := by rw [wrap_i64_of _ (by omega) (by omega)]; omega
    rw [← accL_succ] at hF
    have fm : ∀ {w w₁ : World}, KF w0 (loB B2 B3 B4 B5 Lv Lp z cl) [(B9, .cells (VL (accL Lv Lp (j + 1))) 30)] grp w ∧ WgLive 55 wg w → ROf 55 ⟨.opn false, 0, wg, 4, (gs0 + 4), grp, may', Z, chs, q'⟩ w w₁ → KF w0 (loB B2 B3 B4 B5 Lv Lp z cl) [(B9, .cells (VL (accL Lv Lp (j + 1))) 30)] grp w₁ ∧ WgLive 55 wg w₁ := fun hh rr => kf_of (st := ⟨.opn false, 0, wg, 4, (gs0 + 4), grp, may', Z, chs, q'⟩) (by simp) hs (lo_lt hL _) (by intro p hp; simp only [List.mem_cons, List.not_mem_nil, or_false] at hp; subst hp; exact .inl hm'.1) hh rr
    have ihk := ih (j + 1) may' q'
    clear ih hend
    simp only [RM3, LM2, RM2, RM1, bodyM, Try.f14, Option.getD_some] at ihk ⊢
    refine goes_join (n := 20) (m := 40) dm_nil (ROf.refl _ _) ?_
    u_reg fm hF
    u_op fm hF
    u_op fm hF
    u_c stepG_region_end fm hF
    u_c stepG_inLoop fm hF
    refine Goes.stop (fun w₁ h₁ => ?_)
    replace hF := fm hF h₁
    clear h₁
    refine ihk _ _ _ _ _ _ _ _ _ _ _ _ _ _ _ _ _ _ _ _ _ _ _ _ _ _ _ (by omega) hm' (fun i c' hc' hi => ?_) hF
    have hne : c' ≠ c := fun e => by
      subst e
      have h1 : j < cl.length := by omega
      have h2 : i < cl.length := (List.getElem?_eq_some_iff.1 hc').1
      have h3 := (List.getElem?_eq_some_iff.1 hc).2
      have h4' := (List.getElem?_eq_some_iff.1 hc').2
      exact (List.pairwise_iff_getElem.1 hnd) j i h1 h2 (by omega) (h3.trans h4'.symm)
    rw [hq2 c' hne]
    exact hq0 i c' hc' (by omega)
  have hR := fun (w : World) (v7 v8 v12 v13 v14 v15 v16 v17 v18 v19 v20 v21 v22 v25 v26 v28 v29 v30 v31 v32 v33 v34 v35 v36 : Value) (hF : KF w0 (loB B2 B3 B4 B5 Lv Lp z cl) [(B9, .cells (VL (accL Lv Lp j)) 30)] grp w ∧ WgLive 55 wg w) => recvLoop (Post := Post) (w0 := w0) (z := z) (Z := Z) (gs0 := gs0) (cs := cs) (cl := cl) (acc := accL Lv Lp j) (Lv := Lv) (q0 := q) (N := N + 13 * n) hL hB9 hgw hLp hp (accL_len Lv Lp j) hj4 (hcc c (List.mem_of_getElem? hc)) hend' 6 0 may q w v7 v8 v12 v13 v14 v15 v16 v17 v18 v19 v20 v21 v22 v25 v26 v28 v29 v30 v31 v32 v33 v34 v35 v36 rfl hm (hq j c hc (Nat.le_refl _)) (fun _ _ => rfl) hF
  clear hend' ih hend
  simp only [LM3, RM3, LM2, RM2, RM1, bodyM, Try.f14, Option.getD_some] at hR ⊢
  refine goes_join (n := 10) (m := 30) dm_nil (ROf.refl _ _) ?_
  u_c stepG_seq fm hF
  u_reg fm hF
  u_op fm hF
  u_c stepG_region_end fm hF
  u_c stepG_seq fm hF
  u_cond true fm hF
  u_c stepG_skip fm hF
  u_c stepG_seq fm hF
  u_c stepG_block fm hF
  u_c stepG_seq fm hF
  refine Goes.stop (fun w₁ h₁ => ?_)
  replace hF := fm hF h₁
  clear h₁
  refine goes_join (n := 1) (m := 29) dm_nil (ROf.refl _ _) ?_
  u_reg fm hF
  refine Goes.stop (fun w₁ h₁ => ?_)
  replace hF := fm hF h₁
  clear h₁
  refine Goes.step rfl (fun w₁ h₁ => ?_)
  replace hF := fm hF h₁
  clear h₁
  rw [stepG_at (r := .chan (some c)) rfl rfl (by k_ne) rfl rfl rfl (chA_get h4 hc _) (chA_ev h4 hc _)]
  simp only [goes_go]
  refine ⟨dm_nil _, ?_⟩
  walk_nrm
  refine goes_join (n := 14) (m := 14) dm_nil (ROf.refl _ _) ?_
  u_op fm hF
  u_c stepG_region_end fm hF
  u_c stepG_seq fm hF
  u_reg fm hF
  u_op fm hF
  u_c stepG_region_end fm hF
  u_c stepG_block fm hF
  u_c stepG_loop fm hF
  refine Goes.stop (fun w₁ h₁ => ?_)
  replace hF := fm hF h₁
  clear h₁
  exact hR _ _ _ _ _ _ _ _ _ _ _ _ _ _ _ _ _ _ _ _ _ _ _ _ _ hF

end

end Go.Proofs.Ytiodikflmijhkaa
/- 'moved', whole: from its call to its return. -/
set_option linter.unusedSectionVars false
set_option linter.unusedVariables false
set_option linter.unusedSimpArgs false
namespace Go.Proofs.Ytiodikflmijhkaa
open Go.Conc Go.ConcN Go.RowKit Go.Conc.Lib Go.ConcR.Gen Go.ConcN.Gen Farm
open Go.ConcR (KK wgBlock WgAt stA smA rd wr mk Payload Aside2 DC0)

section
variable {P : Program} {main : Bool} {b : Frame} {a : Act} {cs : List Frame} {w : World}
theorem stepG_leaveE {fn : Func} {todo : List Item} {c : Frame} {v : Value} (hn : b.kind = .normal) (hd : a.defers = []) (hf : P.funcs[b.fn]? = some fn)
    (hr : (results fn a.tmps).run P w = .ok v w) :
    stepG P main (G { b.at a todo with mode := .returning } (c :: cs)) w = .go (G (c.finish v) cs) w (seen P b.fn ((results fn a.tmps).events P w #[])) := by
  simp [G, stepG, unwind, doReturn, Frame.at, hn, hd, hf, hr, GStep.after]
theorem loadVar_row_in {t ty : TypeId} {g : Nat} {vs : Array Value} {d : TypeDesc} (hg : w.heap[g]? = some (.cells vs t)) (hu : P.underlying ty = some d) (hd : (match d with | .struct _ | .array _ _ => true | _ => false) = true) (hi : (P.info? ty).map (·.size) = some vs.size) (hag : ∀ w, (isAgg ty).run P w = .ok true w) (hso : ∀ w, (sizeOf ty).run P w = .ok vs.size w) :
    ∀ e ∈ (loadVar ty ⟨g, 0, none⟩).events P w #[], RdB g e := by
  intro e h2
  unfold loadVar at h2
  rw [Sem.events_bind] at h2
  rw [hag] at h2
  simp only [events_isAgg] at h2
  replace h2 : e ∈ (sizeOf ty >>= fun n => loadCells ⟨g, 0, none⟩ n >>= fun cs => (pure (.agg cs) : Sem Value)).events P w #[] := h2
  rw [Sem.events_bind, hso] at h2
  simp only [events_sizeOf] at h2
  replace h2 : e ∈ (loadCells ⟨g, 0, none⟩ vs.size >>= fun cs => (pure (.agg cs) : Sem Value)).events P w #[] := h2
  rw [Sem.events_bind] at h2
  cases hl : (loadCells ⟨g, 0, none⟩ vs.size).run P w with
  | halt hh w' => rw [hl] at h2; exact loadCells_in g vs t hg _ (Nat.le_refl _) e h2
  | ok cs' w' => rw [hl] at h2; exact loadCells_in g vs t hg _ (Nat.le_refl _) e h2
theorem results_row_in {fn : Func} {p : Tmp} {t ty : TypeId} {g : Nat} {vs : Array Value} {d : TypeDesc} {tmps : Array Value} (h : fn.results = #[.cell p ty]) (hp : tmps.getD p undef = .pointer (some ⟨g, 0, none⟩)) (hg : w.heap[g]? = some (.cells vs t)) (hu : P.underlying ty = some d) (hd : (match d with | .struct _ | .array _ _ => true | _ => false) = true) (hi : (P.info? ty).map (·.size) = some vs.size) (hag : ∀ w, (isAgg ty).run P w = .ok true w) (hso : ∀ w, (sizeOf ty).run P w = .ok vs.size w) :
    ∀ e ∈ (results fn tmps).events P w #[], RdB g e := by
  intro e he
  have hp' : tmps[p]?.getD undef = .pointer (some ⟨g, 0, none⟩) := by simpa using hp
  have hr := run_loadVar_row (P := P) w g t ty vs (0, 0) d hg hu hd hi
  apply loadVar_row_in hg hu hd hi hag hso e
  simpa [results, h, hp', asAddr, hr] using he
end

section
variable [Payload] {st : MSt} {w : World}
theorem dm_law (hl : st.tag = .law) (o : Obj) : DM st w (w.alloc o) #[] := ⟨by simp, fun h => absurd hl h, fun b hb _ => heap_alloc_ne _ _ hb, by simp⟩
theorem Farm.KF.lower {w0 w : World} {X : List (Nat × Obj)} {grp : Nat → Prop} (h : KF w0 [] X grp w) : KF w0 X [] grp w := ⟨h.tape, h.os, h.output, h.low, h.objs, fun _ x => absurd x List.not_mem_nil, h.gl⟩
end

/-- How 'moved' leaves the starter. -/
structure MovedOut (w0 : World) (st0 : MSt) (c : Frame) (cs : List Frame) (L : List Int) (st : MSt) (g : Goroutine) (w : World) : Prop where
  tag : st.tag = .law
  d : st.d = 0
  g : g = G (c.finish (.agg (VL L))) cs
  tape : w.tape = w0.tape
  os : w.os = w0.os
  output : w.output = w0.output
  low : ∀ b, b < w0.heap.size → w.heap[b]? = w0.heap[b]?
  size : w0.heap.size ≤ w.heap.size
  gs : st.gs = st0.gs + 4
  may : ∀ b, st0.may b → (b < w0.heap.size ∨ w.heap.size ≤ b) → st.may b
  grp : ∀ b, st.grp b → b < w.heap.size
  g0 : ∀ b, st.grp b → b < w0.heap.size → st0.grp b
  mz : ∀ b, st.may b → ¬ st.zone b ∧ ¬ st.grp b

section
variable {w0 : World} {B2 B3 B4 B5 B9 wg : Nat} {Lv Lp : List Int} {z : Array Value} {grp chs may : Nat → Prop} {gs0 : Nat} {cl : List Nat} {cs : List Frame} {c : Frame} {wg0 bd0 : Nat} {grp0 may0 zone0 chs0 : Nat → Prop} {q0 : Nat → List Value}

/-- The starter's state ahead. -/
abbrev stE (wg0 bd0 gs0 : Nat) (grp0 may0 zone0 chs0 : Nat → Prop) (q0 : Nat → List Value) : MSt := ⟨.law, 0, wg0, bd0, gs0, grp0, may0, zone0, chs0, q0⟩

set_option maxRecDepth 100000 in
set_option maxHeartbeats 16000000 in
/-- ████ THE WAIT, AND THE RETURN. ████ -/
theorem afterRecv {L : List Int} (hLl : L.length = 24) (hL : Lay w0 B2 B3 B4 B5 wg) (hB9 : wg < B9) (hgw : grp wg) (hz : z.size = 24) (hgb : ∀ b, grp b → ¬ (w0.heap.size ≤ b ∧ b < wg)) (hg0 : ∀ b, grp b → b < w0.heap.size → grp0 b) (hmz : ∀ b, may0 b → ¬ zone0 b ∧ ¬ grp0 b) (hm4 : may0 B4)
    (q : Nat → List Value) (w : World) (v7 v8 v11 v12 v13 v14 v15 v16 v17 v18 v19 v20 v21 v22 v25 v26 v27 v28 v29 v30 v31 v32 v33 v34 v35 v36 : Value) (hm : may B9 ∧ ∀ b, may b → ¬ grp b) (hF : KF w0 (loB B2 B3 B4 B5 Lv Lp z cl) [(B9, .cells (VL (L)) 30)] grp w ∧ WgLive 55 wg w) :
    Goes Try.prog true (ROf 55 ⟨.opn false, 0, wg, 4, (gs0 + 4), grp, may, (fun b => zone0 b ∨ (w0.heap.size ≤ b ∧ b ≠ B4)), chs, q⟩) (DM ⟨.opn false, 0, wg, 4, (gs0 + 4), grp, may, (fun b => zone0 b ∨ (w0.heap.size ≤ b ∧ b ≠ B4)), chs, q⟩) (fun g w => g.status = .running ∧ MStop Try.prog 55 (MovedOut w0 (stE wg0 bd0 gs0 grp0 may0 zone0 chs0 q0) c cs L) (Sc Try.prog 55 (MovedOut w0 (stE wg0 bd0 gs0 grp0 may0 zone0 chs0 q0) c cs L) (19)) ⟨.opn false, 0, wg, 4, (gs0 + 4), grp, may, (fun b => zone0 b ∨ (w0.heap.size ≤ b ∧ b ≠ B4)), chs, q⟩ g w) 40 (G (b14.at ⟨#[.agg (VL Lv), .agg (VL Lp), .pointer (some ⟨B2, 0, none⟩), .pointer (some ⟨B3, 0, none⟩), .pointer (some ⟨B4, 0, none⟩), .pointer (some ⟨B5, 0, none⟩), .pointer (some ⟨wg, 0, none⟩), v7, v8, .pointer (some ⟨B9, 0, none⟩), undef, v11, v12, v13, v14, v15, v16, v17, v18, v19, v20, v21, v22, .agg (chA cl), .int .i64 (4 : Int), v25, v26, v27, v28, v29, v30, v31, v32, v33, v34, v35, v36, undef, undef], []⟩ [.code LM2, .inLoop LM2, .inBlock 2, .code RM2]) (c :: cs)) w := by
  have hs := hL.le
  have hle : w0.heap.size ≤ B2 ∧ B2 < B3 ∧ B3 < B4 ∧ B4 < B5 ∧ B5 < wg := by have h2 := hL.h2; have h3 := hL.h3; have h4 := hL.h4; have h5 := hL.h5; have hw := hL.hw; omega
  have fm : ∀ {w w₁ : World}, KF w0 (loB B2 B3 B4 B5 Lv Lp z cl) [(B9, .cells (VL (L)) 30)] grp w ∧ WgLive 55 wg w → ROf 55 ⟨.opn false, 0, wg, 4, (gs0 + 4), grp, may, (fun b => zone0 b ∨ (w0.heap.size ≤ b ∧ b ≠ B4)), chs, q⟩ w w₁ → KF w0 (loB B2 B3 B4 B5 Lv Lp z cl) [(B9, .cells (VL (L)) 30)] grp w₁ ∧ WgLive 55 wg w₁ := fun hh rr => kf_of (st := ⟨.opn false, 0, wg, 4, (gs0 + 4), grp, may, (fun b => zone0 b ∨ (w0.heap.size ≤ b ∧ b ≠ B4)), chs, q⟩) (by simp) hs (lo_lt hL _) (by intro p hp; simp only [List.mem_cons, List.not_mem_nil, or_false] at hp; subst hp; exact .inl hm.1) hh rr
  simp only [LM2, RM2, RM1, bodyM, Try.f14, Option.getD_some]
  refine goes_join (n := 37) (m := 3) dm_nil (ROf.refl _ _) ?_
  u_c stepG_seq fm hF
  u_reg fm hF
  u_op fm hF
  u_c stepG_region_end fm hF
  u_c stepG_seq fm hF
  u_cond false fm hF
  u_exit fm hF
  u_c stepG_seq fm hF
  u_reg fm hF
  u_call wgL.f_wait (nm_wait lnk) waitFn fm hF
  refine Goes.stop (fun w₁ h₁ => ?_)
  replace hF := fm hF h₁
  clear h₁
  have hA := @waitFarm payV lnk Try.prog (MovedOut w0 (stE wg0 bd0 gs0 grp0 may0 zone0 chs0 q0) c cs L) wg (gs0 + 4) grp may (fun b => zone0 b ∨ (w0.heap.size ≤ b ∧ b ≠ B4)) chs q (KF w0 (loB B2 B3 B4 B5 Lv Lp z cl) [(B9, .cells (VL (L)) 30)] grp) 0 (fun B b => may0 b ∧ (b < w0.heap.size ∨ b = B4 ∨ B ≤ b)) (fun B b => (zone0 b ∨ (w0.heap.size ≤ b ∧ b ≠ B4)) ∧ b < B)
  simp only [body_wait, waitFn, Option.getD_some] at hA
  refine hA wgL (bd := 4) (by omega) (fun h => hm.2 _ h hgw) hgw (fun w w' rr hh => kf_rm hs (lo_lt hL _) (by intro p hp; simp only [List.mem_cons, List.not_mem_nil, or_false] at hp; subst hp; exact .inl hm.1) hh rr) (fun B b h1 h2 => ⟨h1, h2⟩) (fun w hF b hb => ?_) ?_ _ hF
  · obtain ⟨h1, h2⟩ := hb
    refine ⟨fun hx => ?_, fun hx => ?_⟩
    · rcases h2 with h2 | h2 | h2
      · exact hx.1.elim (hmz b h1).1 fun y => by omega
      · exact hx.1.elim (hmz b h1).1 fun y => y.2 h2
      · exact absurd hx.2 (by omega)
    · rcases h2 with h2 | h2 | h2
      · exact (hmz b h1).2 (hg0 b hx h2)
      · exact hgb b hx ⟨by omega, by omega⟩
      · exact absurd (hF.gl b hx) (by omega)
  clear hA hF fm
  refine ⟨4 + (1 + (1 + (3 + 1))), fun bd B w hF hB => ?_⟩
  replace hF := And.intro hF hB
  clear hB
  have fm : ∀ {w w₁ : World}, KF w0 (loB B2 B3 B4 B5 Lv Lp z cl) [(B9, .cells (VL (L)) 30)] grp w ∧ w.heap.size = B → ROf 55 ⟨.law, 0, wg, bd, gs0 + 4, grp, (fun B b => may0 b ∧ (b < w0.heap.size ∨ b = B4 ∨ B ≤ b)) B, (fun B b => (zone0 b ∨ (w0.heap.size ≤ b ∧ b ≠ B4)) ∧ b < B) B, chs, q⟩ w w₁ → KF w0 (loB B2 B3 B4 B5 Lv Lp z cl) [(B9, .cells (VL (L)) 30)] grp w₁ ∧ w₁.heap.size = B := fun hh rr => ⟨kf_law rfl hh.1 rr, by obtain ⟨d, rfl⟩ := rr.1 rfl; exact hh.2⟩
  refine goes_join (n := 4) (m := 6) dm_nil (ROf.refl _ _) ?_
  walk_nrm
  u_c stepG_region_end fm hF
  u_c stepG_seq fm hF
  u_reg fm hF
  refine Goes.stop (fun w₁ h₁ => ?_)
  replace hF := fm hF h₁
  clear h₁
  refine Goes.step rfl (fun w₁ h₁ => ?_)
  replace hF := fm hF h₁
  clear h₁
  have h9 := hF.1.objs (B9, .cells (VL L) 30) (by simp)
  have n9 : ¬ grp B9 := hm.2 _ hm.1
  have n4 : ¬ grp B4 := fun h => hgb _ h ⟨by omega, by omega⟩
  refine goes_ex (stepG_loadR (vs := VL L) rfl rfl (by k_ne) rfl rfl h9 Try.underlying30 rfl (vInfoL _ hLl) Try.isAgg30 (fun w => by rw [VL_size, hLl]; exact szV w)) fun es hes => ⟨dm_read hes n9 (lt_of_some' h9), ?_⟩
  clear es hes h9
  walk_nrm
  refine Goes.step rfl (fun w₁ h₁ => ?_)
  replace hF := fm hF h₁
  clear h₁
  clear fm
  have h4 := hF.1.lo (B4, .cells z 30) (by simp)
  refine goes_ex (stepG_storeR (vs := VL L) rfl rfl (by k_ne) rfl rfl rfl h4 (vInfoL _ hLl) (by rw [VL_size, hLl, hz]) (VL_all _) (fun w => by rw [VL_size, hLl]; exact szV w)) fun es hes => ⟨dm_setRow hes ⟨hm4, .inr (.inl rfl)⟩ n4 (lt_of_some' h4), ?_⟩
  clear es hes
  have ht := turn_row (vs := VL L) h4
  replace hF : KF w0 [(B4, .cells (VL L) 30)] [] grp (w₁.setRow B4 (VL L)) ∧ (w₁.setRow B4 (VL L)).heap.size = B :=
    ⟨hF.1.turn ht.1 ht.2.1 ht.2.2 (by omega) (by simp) (by simp), by rw [ht.1.2.2.2]; exact hF.2⟩
  clear h4 ht
  generalize w₁.setRow _ _ = w₂ at hF ⊢
  have fm : ∀ {w w₁ : World}, KF w0 [(B4, .cells (VL L) 30)] [] grp w ∧ w.heap.size = B → ROf 55 ⟨.law, 0, wg, bd, gs0 + 4, grp, (fun B b => may0 b ∧ (b < w0.heap.size ∨ b = B4 ∨ B ≤ b)) B, (fun B b => (zone0 b ∨ (w0.heap.size ≤ b ∧ b ≠ B4)) ∧ b < B) B, chs, q⟩ w w₁ → KF w0 [(B4, .cells (VL L) 30)] [] grp w₁ ∧ w₁.heap.size = B := fun hh rr => ⟨kf_law rfl hh.1 rr, by obtain ⟨d, rfl⟩ := rr.1 rfl; exact hh.2⟩
  refine goes_join (n := 3) (m := 1) dm_nil (ROf.refl _ _) ?_
  walk_nrm
  u_c stepG_region_end fm hF
  u_c stepG_ret' fm hF
  refine Goes.stop (fun w₁ h₁ => ?_)
  replace hF := fm hF h₁
  clear h₁
  refine Goes.step rfl (fun w₁ h₁ => ?_)
  replace hF := fm hF h₁
  clear h₁
  have h4 := hF.1.lo (B4, .cells (VL L) 30) (by simp)
  rw [stepG_leaveE rfl rfl Try.func14 (results_cell_row (p := 4) (ty := 30) rfl _ _ B4 30 _ (0, 0) _ rfl h4 Try.underlying30 rfl (vInfoL _ hLl))]
  simp only [goes_go]
  refine ⟨dm_read (g := B4) (fun e he => results_row_in (p := 4) (ty := 30) rfl rfl h4 Try.underlying30 rfl (vInfoL _ hLl) Try.isAgg30 (fun w => by rw [VL_size, hLl]; exact szV w) e (mem_seen he)) n4 (lt_of_some' h4), ?_⟩
  clear h4
  refine Goes.stop (fun w₁ h₁ => ?_)
  replace hF := fm hF h₁
  clear h₁ fm
  refine ⟨rfl, .cont rfl rfl ⟨rfl, rfl, rfl, hF.1.tape, hF.1.os, hF.1.output, hF.1.low, ?_, rfl, fun b hb h => ⟨hb, h.imp id fun h => .inr (by omega)⟩, hF.1.gl, hg0, fun b hb => ?_⟩⟩
  · have := lt_of_some' (hF.1.lo (B4, .cells (VL L) 30) (by simp))
    simp only at this
    omega
  · obtain ⟨h1, h2⟩ := hb
    refine ⟨fun hx => ?_, fun hx => ?_⟩
    · rcases h2 with h2 | h2 | h2
      · exact hx.1.elim (hmz b h1).1 fun y => by omega
      · exact hx.1.elim (hmz b h1).1 fun y => y.2 h2
      · exact absurd hx.2 (by omega)
    · rcases h2 with h2 | h2 | h2
      · exact (hmz b h1).2 (hg0 b hx h2)
      · exact hgb b hx ⟨by omega, by omega⟩
      · exact absurd (hF.1.gl b hx) (by omega)

end

end Go.Proofs.Ytiodikflmijhkaa
/- 'moved', whole: from its call to its return. -/
set_option linter.unusedSectionVars false
set_option linter.unusedVariables false
set_option linter.unusedSimpArgs false
namespace Go.Proofs.Ytiodikflmijhkaa
open Go.Conc Go.ConcN Go.RowKit Go.Conc.Lib Go.ConcR.Gen Go.ConcN.Gen Farm
open Go.ConcR (KK wgBlock WgAt stA smA rd wr mk Payload Aside2 DC0)

section
variable {w0 : World} {B2 B3 B4 B5 wg : Nat} {Lv Lp : List Int} {z : Array Value} {grp chs : Nat → Prop} {q : Nat → List Value} {gs0 : Nat} {cl : List Nat} {cs : List Frame} {c : Frame} {wg0 bd0 : Nat} {grp0 may0 zone0 chs0 : Nat → Prop} {q0 : Nat → List Value}

theorem zero24 : (Value.agg #[.int .i64 0, .int .i64 0, .int .i64 0, .int .i64 0, .int .i64 0, .int .i64 0, .int .i64 0, .int .i64 0, .int .i64 0, .int .i64 0, .int .i64 0, .int .i64 0, .int .i64 0, .int .i64 0, .int .i64 0, .int .i64 0, .int .i64 0, .int .i64 0, .int .i64 0, .int .i64 0, .int .i64 0, .int .i64 0, .int .i64 0, .int .i64 0]).cells = VL (accL Lv Lp 0) := rfl
set_option maxRecDepth 100000 in
set_option maxHeartbeats 16000000 in
/-- ████ BEHIND THE WORKERS' START. ████ -/
theorem afterRows (hL : Lay w0 B2 B3 B4 B5 wg) (hz : z.size = 24) (hLp : Lp.length = 24) (hp : ∀ x ∈ Lp, 0 ≤ x ∧ x < 24) (hmz : ∀ b, may0 b → ¬ zone0 b ∧ ¬ grp0 b) (hm4 : may0 B4)
    (w : World) (v7 v8 v14 v15 v16 v17 v18 v19 v20 v21 v22 : Value) (h4 : cl.length = 4) (hI : LI w0 grp0 wg Lv Lp cl grp chs q) (hF : KF w0 (loB B2 B3 B4 B5 Lv Lp z cl) [] grp w ∧ WgLive 55 wg w) :
    Goes Try.prog true (ROf 55 ⟨.opn false, 0, wg, 4, (gs0 + 4), grp, (fun b => b = B4 ∨ b = B5), (fun b => zone0 b ∨ (w0.heap.size ≤ b ∧ b ≠ B4)), chs, q⟩) (DM ⟨.opn false, 0, wg, 4, (gs0 + 4), grp, (fun b => b = B4 ∨ b = B5), (fun b => zone0 b ∨ (w0.heap.size ≤ b ∧ b ≠ B4)), chs, q⟩) (fun g w => g.status = .running ∧ MStop Try.prog 55 (MovedOut w0 (stE wg0 bd0 gs0 grp0 may0 zone0 chs0 q0) c cs (mvL Lv Lp)) (Sc Try.prog 55 (MovedOut w0 (stE wg0 bd0 gs0 grp0 may0 zone0 chs0 q0) c cs (mvL Lv Lp)) (72)) ⟨.opn false, 0, wg, 4, (gs0 + 4), grp, (fun b => b = B4 ∨ b = B5), (fun b => zone0 b ∨ (w0.heap.size ≤ b ∧ b ≠ B4)), chs, q⟩ g w) 14 (G (b14.at ⟨#[.agg (VL Lv), .agg (VL Lp), .pointer (some ⟨B2, 0, none⟩), .pointer (some ⟨B3, 0, none⟩), .pointer (some ⟨B4, 0, none⟩), .pointer (some ⟨B5, 0, none⟩), .pointer (some ⟨wg, 0, none⟩), v7, v8, undef, undef, undef, undef, .int .i64 (4 : Int), v14, v15, v16, v17, v18, v19, v20, v21, v22, undef, undef, undef, undef, undef, undef, undef, undef, undef, undef, undef, undef, undef, undef, undef, undef], []⟩ [.code LM1, .inLoop LM1, .inBlock 0, .code RM1]) (c :: cs)) w := by
  have hs := hL.le
  have hle : w0.heap.size ≤ B2 ∧ B2 < B3 ∧ B3 < B4 ∧ B4 < B5 ∧ B5 < wg := by have h2 := hL.h2; have h3 := hL.h3; have h4 := hL.h4; have h5 := hL.h5; have hw := hL.hw; omega
  have fm : ∀ {w w₁ : World}, KF w0 (loB B2 B3 B4 B5 Lv Lp z cl) [] grp w ∧ WgLive 55 wg w → ROf 55 ⟨.opn false, 0, wg, 4, (gs0 + 4), grp, (fun b => b = B4 ∨ b = B5), (fun b => zone0 b ∨ (w0.heap.size ≤ b ∧ b ≠ B4)), chs, q⟩ w w₁ → KF w0 (loB B2 B3 B4 B5 Lv Lp z cl) [] grp w₁ ∧ WgLive 55 wg w₁ := fun hh rr => kf_of (st := ⟨.opn false, 0, wg, 4, (gs0 + 4), grp, (fun b => b = B4 ∨ b = B5), (fun b => zone0 b ∨ (w0.heap.size ≤ b ∧ b ≠ B4)), chs, q⟩) (by simp) hs (lo_lt hL _) (by simp) hh rr
  have hR := fun (B9 : Nat) (hB9 : wg < B9) (may : Nat → Prop) (w : World) (v7 v8 v11 v12 v13 v14 v15 v16 v17 v18 v19 v20 v21 v22 v25 v26 v27 v28 v29 v30 v31 v32 v33 v34 v35 v36 : Value) (hm : may B9 ∧ ∀ b, may b → ¬ grp b) (hF : KF w0 (loB B2 B3 B4 B5 Lv Lp z cl) [(B9, .cells (VL (accL Lv Lp 0)) 30)] grp w ∧ WgLive 55 wg w) => rowsLoop (Post := (MovedOut w0 (stE wg0 bd0 gs0 grp0 may0 zone0 chs0 q0) c cs (mvL Lv Lp))) (w0 := w0) (z := z) (Z := (fun b => zone0 b ∨ (w0.heap.size ≤ b ∧ b ≠ B4))) (gs0 := gs0) (cs := c :: cs) (cl := cl) (Lv := Lv) (N := 19) hL hB9 hI.gw hLp hp h4 hI.cc hI.nd (fun may' q' w v7 v8 v11 v12 v13 v14 v15 v16 v17 v18 v19 v20 v21 v22 v25 v26 v27 v28 v29 v30 v31 v32 v33 v34 v35 v36 hm hF => afterRecv (L := accL Lv Lp 4) (accL_len Lv Lp 4) hL hB9 hI.gw hz hI.gb hI.g0 hmz hm4 q' w v7 v8 v11 v12 v13 v14 v15 v16 v17 v18 v19 v20 v21 v22 v25 v26 v27 v28 v29 v30 v31 v32 v33 v34 v35 v36 hm hF) 4 0 may q w v7 v8 v11 v12 v13 v14 v15 v16 v17 v18 v19 v20 v21 v22 v25 v26 v27 v28 v29 v30 v31 v32 v33 v34 v35 v36 rfl hm (fun i c' hc' _ => hI.qs i c' hc') hF
  simp only [LM1, LM2, RM2, RM1, bodyM, Try.f14, Option.getD_some] at hR ⊢
  refine goes_join (n := 14) (m := 0) dm_nil (ROf.refl _ _) ?_
  u_c stepG_seq fm hF
  u_reg fm hF
  u_op fm hF
  u_c stepG_region_end fm hF
  u_c stepG_seq fm hF
  u_cond false fm hF
  u_exit fm hF
  u_c stepG_seq fm hF
  u_reg fm hF
  refine Goes.stop (fun w₁ h₁ => ?_)
  replace hF := fm hF h₁
  clear h₁
  refine Goes.stop (fun w₁ h₁ => ?_)
  replace hF := fm hF h₁
  clear h₁
  clear fm
  have hsz := live_lt hF.2
  refine ⟨rfl, mstop_alloc rfl rfl (by k_ne) rfl Try.zeroValue30 ?_⟩
  have n9 : ¬ grp w₁.heap.size := fun h => Nat.lt_irrefl _ (hF.1.gl _ h)
  replace hF : KF w0 (loB B2 B3 B4 B5 Lv Lp z cl) [(w₁.heap.size, .cells (Value.agg #[.int .i64 0, .int .i64 0, .int .i64 0, .int .i64 0, .int .i64 0, .int .i64 0, .int .i64 0, .int .i64 0, .int .i64 0, .int .i64 0, .int .i64 0, .int .i64 0, .int .i64 0, .int .i64 0, .int .i64 0, .int .i64 0, .int .i64 0, .int .i64 0, .int .i64 0, .int .i64 0, .int .i64 0, .int .i64 0, .int .i64 0, .int .i64 0]).cells 30)] grp (w₁.alloc (.cells (Value.agg #[.int .i64 0, .int .i64 0, .int .i64 0, .int .i64 0, .int .i64 0, .int .i64 0, .int .i64 0, .int .i64 0, .int .i64 0, .int .i64 0, .int .i64 0, .int .i64 0, .int .i64 0, .int .i64 0, .int .i64 0, .int .i64 0, .int .i64 0, .int .i64 0, .int .i64 0, .int .i64 0, .int .i64 0, .int .i64 0, .int .i64 0, .int .i64 0]).cells 30)) ∧ WgLive 55 wg (w₁.alloc (.cells (Value.agg #[.int .i64 0, .int .i64 0, .int .i64 0, .int .i64 0, .int .i64 0, .int .i64 0, .int .i64 0, .int .i64 0, .int .i64 0, .int .i64 0, .int .i64 0, .int .i64 0, .int .i64 0, .int .i64 0, .int .i64 0, .int .i64 0, .int .i64 0, .int .i64 0, .int .i64 0, .int .i64 0, .int .i64 0, .int .i64 0, .int .i64 0, .int .i64 0]).cells 30)) := ⟨hF.1.alloc (by omega) _, live_alloc' hF.2⟩
  revert hF n9 hsz
  rw [zero24 (Lv := Lv) (Lp := Lp)]
  show _ → _ → _ → Sc Try.prog _ _ _ _ _ (w₁.alloc (.cells (VL (accL Lv Lp 0)) 30))
  generalize w₁.alloc (.cells (VL (accL Lv Lp 0)) 30) = w₂
  generalize w₁.heap.size = B9
  intro hsz n9 hF
  have fm : ∀ {w w₁ : World}, KF w0 (loB B2 B3 B4 B5 Lv Lp z cl) [(B9, .cells (VL (accL Lv Lp 0)) 30)] grp w ∧ WgLive 55 wg w → ROf 55 ⟨.opn false, 0, wg, 4, (gs0 + 4), grp, (fun b => (b = B4 ∨ b = B5) ∨ b = B9), (fun b => zone0 b ∨ (w0.heap.size ≤ b ∧ b ≠ B4)), chs, q⟩ w w₁ → KF w0 (loB B2 B3 B4 B5 Lv Lp z cl) [(B9, .cells (VL (accL Lv Lp 0)) 30)] grp w₁ ∧ WgLive 55 wg w₁ := fun hh rr => kf_of (st := ⟨.opn false, 0, wg, 4, (gs0 + 4), grp, (fun b => (b = B4 ∨ b = B5) ∨ b = B9), (fun b => zone0 b ∨ (w0.heap.size ≤ b ∧ b ≠ B4)), chs, q⟩) (by simp) hs (lo_lt hL _) (by intro p hp; simp only [List.mem_cons, List.not_mem_nil, or_false] at hp; subst hp; exact .inl (.inr rfl)) hh rr
  walk_nrm
  refine ⟨4 + (1 + (4 + 40)), ?_⟩
  refine goes_join (n := 4) (m := 45) dm_nil (ROf.refl _ _) ?_
  u_c stepG_region_end fm hF
  u_c stepG_seq fm hF
  u_c stepG_seq fm hF
  u_reg fm hF
  refine Goes.stop (fun w₁ h₁ => ?_)
  replace hF := fm hF h₁
  clear h₁
  refine Goes.step rfl (fun w₁ h₁ => ?_)
  replace hF := fm hF h₁
  clear h₁
  have h5' := hF.1.lo (B5, .cells (chA cl) 46) (by simp)
  have hcs : (chA cl).size = 4 := by simp [chA, h4]
  refine goes_ex (stepG_loadR (vs := chA cl) rfl rfl (by k_ne) rfl rfl h5' Try.underlying46 rfl (by rw [hcs]; kernel_rfl) Try.isAgg46 (fun w => by rw [hcs]; exact Try.sizeOf46 w)) fun es hes => ⟨dm_read hes (fun h => hI.gb _ h ⟨by omega, by omega⟩) (lt_of_some' h5'), ?_⟩
  clear es hes h5' hcs
  refine goes_join (n := 4) (m := 40) dm_nil (ROf.refl _ _) ?_
  walk_nrm
  u_op fm hF
  u_c stepG_region_end fm hF
  u_c stepG_block fm hF
  u_c stepG_loop fm hF
  refine Goes.stop (fun w₁ h₁ => ?_)
  replace hF := fm hF h₁
  clear h₁
  refine hR B9 (by omega) (fun b => (b = B4 ∨ b = B5) ∨ b = B9) _ _ _ _ _ _ _ _ _ _ _ _ _ _ _ _ _ _ _ _ _ _ _ _ _ _ _ ⟨.inr rfl, fun b hb => ?_⟩ hF
  rcases hb with (rfl | rfl) | rfl
  · exact fun h => hI.gb _ h ⟨by omega, by omega⟩
  · exact fun h => hI.gb _ h ⟨by omega, by omega⟩
  · exact n9

end

end Go.Proofs.Ytiodikflmijhkaa
/- 'moved', whole: from its call to its return. -/
set_option linter.unusedSectionVars false
set_option linter.unusedVariables false
set_option linter.unusedSimpArgs false
namespace Go.Proofs.Ytiodikflmijhkaa
open Go.Conc Go.ConcN Go.RowKit Go.Conc.Lib Go.ConcR.Gen Go.ConcN.Gen Farm
open Go.ConcR (KK wgBlock WgAt stA smA rd wr mk Payload Aside2 DC0)

section
variable {w0 : World} {Lv Lp : List Int} {gs0 : Nat} {cs : List Frame} {c : Frame} {wg0 bd0 : Nat} {grp0 may0 zone0 chs0 : Nat → Prop} {q0 : Nat → List Value}

set_option maxRecDepth 100000 in
set_option maxHeartbeats 16000000 in
/-- ████ 'moved', WHOLE. ████ -/
theorem movedSc (hLv : Lv.length = 24) (hLp : Lp.length = 24) (hp : ∀ x ∈ Lp, 0 ≤ x ∧ x < 24) (hgs : gs0 + 4 < 1000) (hfr : ∀ b, w0.heap.size ≤ b → may0 b) (hmz : ∀ b, may0 b → ¬ zone0 b ∧ ¬ grp0 b) (hgl : ∀ b, grp0 b → b < w0.heap.size) :
    Sc Try.prog 55 (MovedOut w0 (stE wg0 bd0 gs0 grp0 may0 zone0 chs0 q0) c cs (mvL Lv Lp)) 102 (stE wg0 bd0 gs0 grp0 may0 zone0 chs0 q0) (G (b14.at ⟨#[.agg (VL Lv), .agg (VL Lp), undef, undef, undef, undef, undef, undef, undef, undef, undef, undef, undef, undef, undef, undef, undef, undef, undef, undef, undef, undef, undef, undef, undef, undef, undef, undef, undef, undef, undef, undef, undef, undef, undef, undef, undef, undef, undef], []⟩ [.code bodyM]) (c :: cs)) w0 := by
  have hF : KF w0 [] [] grp0 w0 ∧ w0.heap.size = w0.heap.size + 0 := ⟨⟨rfl, rfl, rfl, fun _ _ => rfl, by simp, by simp, hgl⟩, rfl⟩
  refine ⟨2 + (1 + (1 + (1 + (3 + (1 + (4 + 0)))))), ?_⟩
  simp only [bodyM, Try.f14, Option.getD_some]
  have fm : ∀ {w w₁ : World}, KF w0 [] [] grp0 w ∧ w.heap.size = w0.heap.size + 0 → ROf 55 (stE wg0 bd0 gs0 grp0 may0 zone0 chs0 q0) w w₁ → KF w0 [] [] grp0 w₁ ∧ w₁.heap.size = w0.heap.size + 0 := fun hh rr => ⟨kf_law rfl hh.1 rr, by obtain ⟨d, rfl⟩ := rr.1 rfl; exact hh.2⟩
  refine goes_join (n := 2) (m := 11) dm_nil (ROf.refl _ _) ?_
  u_c stepG_seq fm hF
  u_reg fm hF
  refine Goes.stop (fun w₁ h₁ => ?_)
  replace hF := fm hF h₁
  clear h₁
  refine Goes.step rfl (fun w₁ h₁ => ?_)
  replace hF := fm hF h₁
  clear h₁
  rw [stepG_box (x := .tmp 0) rfl rfl (by k_ne) rfl]
  simp only [goes_go]
  refine ⟨dm_law rfl _, ?_⟩
  walk_nrm
  show Goes _ _ _ _ _ _ _ (w₁.alloc (.cells (VL Lv) 30))
  replace hF : KF w0 [] ((w₁.heap.size, .cells (VL Lv) 30) :: []) grp0 (w₁.alloc (.cells (VL Lv) 30)) ∧ (w₁.alloc (.cells (VL Lv) 30)).heap.size = w0.heap.size + 1 := ⟨hF.1.alloc (by omega) _, by simp [hF.2]⟩
  have hb : w₁.heap.size = w0.heap.size + 0 := by have := hF.2; simp at this; omega
  revert hF hb
  generalize w₁.alloc (.cells (VL Lv) 30) = w₂
  generalize w₁.heap.size = B2
  intro hF h2
  clear fm
  have fm : ∀ {w w₁ : World}, KF w0 [] [(B2, .cells (VL Lv) 30)] grp0 w ∧ w.heap.size = w0.heap.size + 1 → ROf 55 (stE wg0 bd0 gs0 grp0 may0 zone0 chs0 q0) w w₁ → KF w0 [] [(B2, .cells (VL Lv) 30)] grp0 w₁ ∧ w₁.heap.size = w0.heap.size + 1 := fun hh rr => ⟨kf_law rfl hh.1 rr, by obtain ⟨d, rfl⟩ := rr.1 rfl; exact hh.2⟩
  refine Goes.step rfl (fun w₁ h₁ => ?_)
  replace hF := fm hF h₁
  clear h₁
  rw [stepG_box (x := .tmp 1) rfl rfl (by k_ne) rfl]
  simp only [goes_go]
  refine ⟨dm_law rfl _, ?_⟩
  walk_nrm
  show Goes _ _ _ _ _ _ _ (w₁.alloc (.cells (VL Lp) 33))
  replace hF : KF w0 [] ((w₁.heap.size, .cells (VL Lp) 33) :: [(B2, .cells (VL Lv) 30)]) grp0 (w₁.alloc (.cells (VL Lp) 33)) ∧ (w₁.alloc (.cells (VL Lp) 33)).heap.size = w0.heap.size + 2 := ⟨hF.1.alloc (by omega) _, by simp [hF.2]⟩
  have hb : w₁.heap.size = w0.heap.size + 1 := by have := hF.2; simp at this; omega
  revert hF hb
  generalize w₁.alloc (.cells (VL Lp) 33) = w₂
  generalize w₁.heap.size = B3
  intro hF h3
  clear fm
  have fm : ∀ {w w₁ : World}, KF w0 [] [(B3, .cells (VL Lp) 33), (B2, .cells (VL Lv) 30)] grp0 w ∧ w.heap.size = w0.heap.size + 2 → ROf 55 (stE wg0 bd0 gs0 grp0 may0 zone0 chs0 q0) w w₁ → KF w0 [] [(B3, .cells (VL Lp) 33), (B2, .cells (VL Lv) 30)] grp0 w₁ ∧ w₁.heap.size = w0.heap.size + 2 := fun hh rr => ⟨kf_law rfl hh.1 rr, by obtain ⟨d, rfl⟩ := rr.1 rfl; exact hh.2⟩
  refine Goes.step rfl (fun w₁ h₁ => ?_)
  replace hF := fm hF h₁
  clear h₁
  rw [stepG_alloc rfl rfl (by k_ne) rfl Try.zeroValue30]
  simp only [goes_go]
  refine ⟨dm_law rfl _, ?_⟩
  walk_nrm
  show Goes _ _ _ _ _ _ _ (w₁.alloc (.cells (VL (accL Lv Lp 0)) 30))
  replace hF : KF w0 [] ((w₁.heap.size, .cells (VL (accL Lv Lp 0)) 30) :: [(B3, .cells (VL Lp) 33), (B2, .cells (VL Lv) 30)]) grp0 (w₁.alloc (.cells (VL (accL Lv Lp 0)) 30)) ∧ (w₁.alloc (.cells (VL (accL Lv Lp 0)) 30)).heap.size = w0.heap.size + 3 := ⟨hF.1.alloc (by omega) _, by simp [hF.2]⟩
  have hb : w₁.heap.size = w0.heap.size + 2 := by have := hF.2; simp at this; omega
  revert hF hb
  generalize w₁.alloc (.cells (VL (accL Lv Lp 0)) 30) = w₂
  generalize w₁.heap.size = B4
  intro hF h4
  clear fm
  have fm : ∀ {w w₁ : World}, KF w0 [] [(B4, .cells (VL (accL Lv Lp 0)) 30), (B3, .cells (VL Lp) 33), (B2, .cells (VL Lv) 30)] grp0 w ∧ w.heap.size = w0.heap.size + 3 → ROf 55 (stE wg0 bd0 gs0 grp0 may0 zone0 chs0 q0) w w₁ → KF w0 [] [(B4, .cells (VL (accL Lv Lp 0)) 30), (B3, .cells (VL Lp) 33), (B2, .cells (VL Lv) 30)] grp0 w₁ ∧ w₁.heap.size = w0.heap.size + 3 := fun hh rr => ⟨kf_law rfl hh.1 rr, by obtain ⟨d, rfl⟩ := rr.1 rfl; exact hh.2⟩
  refine goes_join (n := 3) (m := 5) dm_nil (ROf.refl _ _) ?_
  u_c stepG_region_end fm hF
  u_c stepG_seq fm hF
  u_reg fm hF
  refine Goes.stop (fun w₁ h₁ => ?_)
  replace hF := fm hF h₁
  clear h₁
  refine Goes.step rfl (fun w₁ h₁ => ?_)
  replace hF := fm hF h₁
  clear h₁
  rw [stepG_alloc rfl rfl (by k_ne) rfl Try.zeroValue46]
  simp only [goes_go]
  refine ⟨dm_law rfl _, ?_⟩
  walk_nrm
  show Goes _ _ _ _ _ _ _ (w₁.alloc (.cells (chA []) 46))
  replace hF : KF w0 [] ((w₁.heap.size, .cells (chA []) 46) :: [(B4, .cells (VL (accL Lv Lp 0)) 30), (B3, .cells (VL Lp) 33), (B2, .cells (VL Lv) 30)]) grp0 (w₁.alloc (.cells (chA []) 46)) ∧ (w₁.alloc (.cells (chA []) 46)).heap.size = w0.heap.size + 4 := ⟨hF.1.alloc (by omega) _, by simp [hF.2]⟩
  have hb : w₁.heap.size = w0.heap.size + 3 := by have := hF.2; simp at this; omega
  revert hF hb
  generalize w₁.alloc (.cells (chA []) 46) = w₂
  generalize w₁.heap.size = B5
  intro hF h5
  clear fm
  have fm : ∀ {w w₁ : World}, KF w0 [] [(B5, .cells (chA []) 46), (B4, .cells (VL (accL Lv Lp 0)) 30), (B3, .cells (VL Lp) 33), (B2, .cells (VL Lv) 30)] grp0 w ∧ w.heap.size = w0.heap.size + 4 → ROf 55 (stE wg0 bd0 gs0 grp0 may0 zone0 chs0 q0) w w₁ → KF w0 [] [(B5, .cells (chA []) 46), (B4, .cells (VL (accL Lv Lp 0)) 30), (B3, .cells (VL Lp) 33), (B2, .cells (VL Lv) 30)] grp0 w₁ ∧ w₁.heap.size = w0.heap.size + 4 := fun hh rr => ⟨kf_law rfl hh.1 rr, by obtain ⟨d, rfl⟩ := rr.1 rfl; exact hh.2⟩
  refine goes_join (n := 4) (m := 0) dm_nil (ROf.refl _ _) ?_
  u_c stepG_region_end fm hF
  u_c stepG_seq fm hF
  u_reg fm hF
  refine Goes.stop (fun w₁ h₁ => ?_)
  replace hF := fm hF h₁
  clear h₁
  refine Goes.stop (fun w₁ h₁ => ?_)
  replace hF := fm hF h₁
  clear h₁
  clear fm
  refine ⟨rfl, .wg _ (fun b => zone0 b ∨ (w0.heap.size ≤ b ∧ b ≠ B4)) (fun b => b = B4 ∨ b = B5) rfl rfl (stepG_alloc rfl rfl (by k_ne) rfl Try.zeroValue55) ?_ ?_ ?_⟩
  · rintro b (h | h)
    · exact .inl h
    · exact .inr ⟨by omega, by omega⟩
  · rintro b (rfl | rfl)
    · exact ⟨hfr _ (by omega), by omega⟩
    · exact ⟨hfr _ (by omega), by omega⟩
  have hw : w₁.heap.size = w0.heap.size + 4 := hF.2
  have hG : KF w0 (loB B2 B3 B4 B5 Lv Lp (VL (accL Lv Lp 0)) []) [] (fun b => grp0 b ∨ b = w₁.heap.size) (w₁.alloc (wgBlock 55 0 0)) := (((hF.1.allocG (by omega) (wgBlock 55 0 0)).drop (X' := (loB B2 B3 B4 B5 Lv Lp (VL (accL Lv Lp 0)) [])) (fun p hp => by
    simp only [List.mem_cons, List.not_mem_nil, or_false] at hp ⊢
    rcases hp with rfl | rfl | rfl | rfl <;> simp))).lower
  replace hF : KF w0 (loB B2 B3 B4 B5 Lv Lp (VL (accL Lv Lp 0)) []) [] (fun b => grp0 b ∨ b = w₁.heap.size) (w₁.alloc (wgBlock 55 0 0)) ∧ WgLive 55 w₁.heap.size (w₁.alloc (wgBlock 55 0 0)) := ⟨hG, 0, 0, heap_alloc_new _ _⟩
  clear hG
  revert hF hw
  show _ → _ → Sc Try.prog _ _ _ _ _ (w₁.alloc (wgBlock 55 0 0))
  generalize w₁.alloc (wgBlock 55 0 0) = w₂
  generalize w₁.heap.size = wg
  intro hw hF
  have hL : Lay w0 B2 B3 B4 B5 wg := ⟨h2, h3, h4, h5, hw⟩
  have hs := hL.le
  have hI : LI w0 grp0 wg Lv Lp [] (fun b => grp0 b ∨ b = wg) (fun _ => False) q0 := ⟨.inr rfl, fun b hb h => hb.elim (fun x => by have := hgl b x; omega) fun e => by omega, fun b hb hlt => hb.elim id fun e => by omega, fun _ h => h.elim, by simp, List.nodup_nil, by simp⟩
  clear h2 h3 h4 h5 hw
  have hR := fun (w : World) (v7 v8 v14 v15 v16 v17 v18 v19 v20 v21 v22 : Value) (hF : KF w0 (loB B2 B3 B4 B5 Lv Lp (VL (accL Lv Lp 0)) []) [] (fun b => grp0 b ∨ b = wg) w ∧ WgLive 55 wg w) => rowLoop (Post := (MovedOut w0 (stE wg0 bd0 gs0 grp0 may0 zone0 chs0 q0) c cs (mvL Lv Lp))) (gs0 := gs0) (cs := c :: cs) (z := VL (accL Lv Lp 0)) (Z := (fun b => zone0 b ∨ (w0.heap.size ≤ b ∧ b ≠ B4))) (grp0 := grp0) (N := 72) hL ⟨.inr ⟨by have := hL.h2; omega, by have := hL.h2; have := hL.h4; omega⟩, .inr ⟨by have := hL.h3; omega, by have := hL.h3; have := hL.h4; omega⟩, fun b hb => .inr ⟨by omega, by have := hL.hw; have := hL.h4; omega⟩⟩ hLv hLp hgs (fun cl grp chs q w v7 v8 v14 v15 v16 v17 v18 v19 v20 v21 v22 h4 hI hF => afterRows hL (by rw [VL_size, accL_len]) hLp hp hmz (hfr _ (by have := hL.h4; omega)) w v7 v8 v14 v15 v16 v17 v18 v19 v20 v21 v22 h4 hI hF) 4 0 [] _ _ q0 w v7 v8 v14 v15 v16 v17 v18 v19 v20 v21 v22 rfl rfl hI hF
  simp only [LM1, RM1, bodyM, Try.f14, Option.getD_some] at hR ⊢
  walk_nrm
  refine ⟨8 + 14, ?_⟩
  have fm : ∀ {w w₁ : World}, KF w0 (loB B2 B3 B4 B5 Lv Lp (VL (accL Lv Lp 0)) []) [] (fun b => grp0 b ∨ b = wg) w ∧ WgLive 55 wg w → ROf 55 ⟨.opn false, 0, wg, 0, gs0, (fun b => grp0 b ∨ b = wg), (fun b => b = B4 ∨ b = B5), (fun b => zone0 b ∨ (w0.heap.size ≤ b ∧ b ≠ B4)), (fun _ => False), q0⟩ w w₁ → KF w0 (loB B2 B3 B4 B5 Lv Lp (VL (accL Lv Lp 0)) []) [] (fun b => grp0 b ∨ b = wg) w₁ ∧ WgLive 55 wg w₁ := fun hh rr => kf_of (st := ⟨.opn false, 0, wg, 0, gs0, (fun b => grp0 b ∨ b = wg), (fun b => b = B4 ∨ b = B5), (fun b => zone0 b ∨ (w0.heap.size ≤ b ∧ b ≠ B4)), (fun _ => False), q0⟩) (by simp) hs (lo_lt hL _) (by simp) hh rr
  refine goes_join (n := 8) (m := 14) dm_nil (ROf.refl _ _) ?_
  u_c stepG_region_end fm hF
  u_c stepG_seq fm hF
  u_c stepG_seq fm hF
  u_reg fm hF
  u_op fm hF
  u_c stepG_region_end fm hF
  u_c stepG_block fm hF
  u_c stepG_loop fm hF
  refine Goes.stop (fun w₁ h₁ => ?_)
  replace hF := fm hF h₁
  clear h₁
  exact hR _ _ _ _ _ _ _ _ _ _ _ _ hF

end

end Go.Proofs.Ytiodikflmijhkaa