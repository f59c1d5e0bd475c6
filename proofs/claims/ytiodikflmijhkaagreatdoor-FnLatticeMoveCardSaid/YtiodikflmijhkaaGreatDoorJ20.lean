/- Joined texts: F10. -/
import Derived.Test.YtiodikflmijhkaaGreatDoorJ19
set_option linter.unusedSectionVars false
set_option linter.unusedVariables false
namespace Go.Proofs.YtiodikflmijhkaaGreatDoor.Farm
open Go.Conc Go.ConcN
open Go.ConcR (KK wgBlock WgAt stA smA rd wr mk Payload Aside2 DC0 Bk g_of_ofEvents loc_of_ofEvent ofEvent_loc_mark again_blocked bk_of_mute ofEvent_cell ofEvent_mk)
variable [Payload]

section
variable {P : Program} {ty : TypeId} {Post : MSt → Goroutine → World → Prop} {κ j : Nat} {gs : Array Goroutine} {w w' : World} {sl : Option (Nat × Nat)} {t : Trace} {D : Nat → KD} {So : Nat → Nat → Prop} {qo : Nat → Nat} {st st' : MSt} {N N' f f' : Nat} {b b' : Bool} {a a' : Goroutine}

theorem KS.quits {wg : Nat} {d : KD} {g : Goroutine} (h : KS P ty wg d g w) (hs : d.stage = 1) : QuitsD P d.fuel d.deaf g := by
  cases h with
  | scr _ _ => simp only at hs; omega
  | lib _ _ _ h => exact h.quits hs

set_option maxHeartbeats 1600000 in
/-- It hears that all have done. -/
theorem acqStep (ha : gs[0]? = some a) (hcom : Com P ty κ j gs w t D So qo st) (hgm : GM ty st j D b w) {g' : Goroutine} {may zone : Nat → Prop} (htag : st.tag = .fin) (hd : st.d = 0) (hgo : stepG P true a w = .go g' w #[mk (.acquire (stA st.wg))])
    (hz : ∀ x, st.zone x → x < w.heap.size → zone x) (hm : ∀ x, may x → ¬ zone x ∧ ¬ st.grp x) (hK : Sc P ty Post N { st with tag := .law, may := may, zone := zone } g' w) :
    ∃ m₁ ops μ', runT P (crowd gs w sl) 0 = (.next m₁, ops) ∧ Lt2 μ' (mu κ j D qo (N + 1) f) ∧ Inv P ty Post μ' m₁ (t ++ ops) := by
  have hl : st.tag ≠ .law := by rw [htag]; simp
  have hk1 := hcom.k1
  obtain ⟨m, hcs'⟩ := sc_pos hK
  obtain ⟨⟨sv, mv, hwg, hmode⟩, _, _⟩ := hgm
  rw [htag] at hmode
  obtain ⟨hq, rfl, rfl⟩ := hmode.fin_inv trivial
  have hst1 : ∀ i, i < j → (D i).stage = 1 := fun i hi => by have := hq i hi; simp only [D7] at this; omega
  have hrun := runT_crowd_go (P := P) (sl := sl) (i := 0) ha (by simpa using hgo)
  have eops : MemOp.ofEvents 0 a.frame.fn a.frame.place #[mk (.acquire (stA st.wg))] = #[{ g := 0, fn := a.frame.fn, pos := a.frame.place, act := .mark (.acquire (stA st.wg)) }] := by rw [ofEvents_eq]; simp [ofEvent_mk]
  rw [eops] at hrun
  obtain ⟨x, hx⟩ : ∃ x : MemOp, x = { g := 0, fn := a.frame.fn, pos := a.frame.place, act := .mark (.acquire (stA st.wg)) } := ⟨_, rfl⟩
  rw [← hx] at hrun
  have hmem : ∀ op ∈ #[x], op = x := fun op hop => by simpa using hop
  have u2 : ∀ op ∈ #[x], op.act.touch? = none := fun op hop => by rw [hmem op hop, hx]; rfl
  have u3 : ∀ op ∈ #[x], op.act ≠ .mark .disable ∧ op.act ≠ .mark .enable ∧ ∀ y, op.act ≠ .mark (.release y) := fun op hop => by rw [hmem op hop, hx]; exact ⟨by simp, by simp, by simp⟩
  have tf := hcom.tf.comm hk1 hcom.apart (Nat.le_refl _) (u := #[x]) (fun op hop => by rw [hmem op hop, hx]; simp) u2 u3
  have gm := gs_main (a' := g') hcom a g' w
  -- the edges
  have hq0 : (t ++ #[x])[t.size]? = some x := by simp
  have hover : ∀ i g, (t ++ #[x]).g? i = some g → κ ≤ g → g < κ + j → (t ++ #[x]).counts i → ∃ q, (t ++ #[x]).g? q = some 0 ∧ HappensBefore (t ++ #[x]) i q := by
    intro i g hg h1 h2 hc
    obtain ⟨i0, hi0, hnr, hrl⟩ := tf.gr
    obtain ⟨y, r, hy, hr0, hr⟩ := hrl (g - κ) (by omega) (by have := hst1 (g - κ) (by omega); omega)
    rw [aOf_some hl] at hy
    cases hy
    rw [show κ + (g - κ) = g by omega] at hr
    have hrq : r < t.size := by
      have h3 := lt_of_act? hr.act
      simp at h3
      rcases Nat.lt_or_ge r t.size with h4 | h4
      · exact h4
      · have h5 : r = t.size := by omega
        have h6 := hr.act
        rw [h5, act?_of hq0, hx] at h6
        simp at h6
    have hheard : (t ++ #[x]).heard t.size := ⟨0, by simp [Trace.g?, hx], by rw [deaf_old (Nat.le_refl _)]; have := hcom.tf.deaf0; rw [hd] at this; exact this⟩
    have edge : HappensBefore (t ++ #[x]) r t.size := .single (.inr ⟨.marked hrq (.inr hr.act) (by rw [act?_of hq0, hx]) (fun k h3 _ => hnr _ (aOf_some hl) k (by omega)), hr.heard, hheard⟩)
    have hle : i ≤ r := Nat.le_of_not_lt fun hlt => hr.after i hlt hg hc
    have hg0 : (t ++ #[x]).g? t.size = some 0 := by simp [Trace.g?, hx]
    rcases Nat.lt_or_ge i r with hlt | hge
    · exact ⟨t.size, hg0, .trans (.single (.inl ⟨hlt, g, hg, hr.g⟩)) edge⟩
    · obtain rfl : i = r := by omega
      exact ⟨t.size, hg0, edge⟩
  have dstill : ∀ g, Deaf (t ++ #[x]) g = Deaf t g := fun g => Deaf_still t g _ fun op hop => ⟨(u3 op hop).1, (u3 op hop).2.1⟩
  obtain ⟨So', hSo'⟩ : ∃ So' : Nat → Nat → Prop, So' = fun k => if k < κ then So k else (D (k - κ)).S := ⟨_, rfl⟩
  have so1 : ∀ k, k < κ → So' k = So k := fun k hk => by rw [hSo']; simp [hk]
  have so2 : ∀ k, κ ≤ k → So' k = (D (k - κ)).S := fun k hk => by rw [hSo']; simp [Nat.not_lt.2 hk]
  obtain ⟨qo', hqo'⟩ : ∃ qo' : Nat → Nat, qo' = fun k => if k < κ then qo k else (D (k - κ)).fuel := ⟨_, rfl⟩
  refine ⟨_, _, mu (κ + j) 0 D qo' N (m + 1), hrun, ?_, _, w, sl, κ + j, 0, D, So', qo', { st with tag := .law, may := may, zone := zone }, N, m + 1, false, g', rfl, get_map_set_same _ _ _ (by rw [hcom.size]; omega), hcs', ?_, fun h => absurd rfl h, rfl⟩
  · refine Prod.Lex.left _ _ ?_
    simp only [sumTo]
    omega
  · refine ⟨by simp [hcom.size], by omega, hcom.gsz, by omega, fun i hi => by omega, fun y h1 hy => ?_, ?_, fun i hi => by omega, fun k hk y hy => ?_, fun i hi => by omega, fun i hi => by omega, fun i _ hi => by omega, fun i hi => by omega, fun i hi => by omega, fun i _ hi => by omega, fun i hi => by omega, fun _ h _ => absurd rfl h, fun _ => rfl, fun h => absurd rfl h, fun y hy => (hm y hy).2, hcom.glt, fun h => absurd rfl h, fun h => absurd rfl h⟩
    · rcases Nat.lt_or_ge y κ with hlt | hge
      · obtain ⟨g, hg, hqq⟩ := hcom.old y h1 hlt
        refine ⟨g, (gm y h1).trans hg, ?_⟩
        rw [dstill, hqo']
        simpa [hlt] using hqq
      · obtain ⟨g, hg, hk⟩ := hcom.wk (y - κ) (by omega)
        rw [show κ + (y - κ) = y by omega] at hg
        refine ⟨g, (gm y h1).trans hg, ?_⟩
        have hqq := hk.quits (hst1 (y - κ) (by omega))
        rw [dstill, hqo']
        have hdf := hcom.tf.deafW (y - κ) (by omega)
        rw [show κ + (y - κ) = y by omega] at hdf
        rw [hdf]
        simpa [Nat.not_lt.2 hge] using hqq
    · have e0 : aOf { st with tag := .law, may := may, zone := zone } = none := rfl
      rw [e0]
      refine ⟨?_, tf.low, ?_, fun i hi => by omega, ⟨(t ++ #[x]).size, Nat.le_refl _, fun _ h => (by cases h), fun i hi => by omega⟩, fun i g hg h1 h2 hc => ?_⟩
      · have := tf.ct
        refine CT.congr this fun k k1 kj l => ?_
        constructor
        · rintro ⟨y, rfl, ⟨h1, h2⟩ | ⟨h1, h2, h3⟩⟩
          · rcases Nat.lt_or_ge k κ with hlt | hge
            · rw [so1 k hlt] at h2; exact ⟨y, rfl, .inl ⟨hlt, h2⟩⟩
            · rw [so2 k hge] at h2; exact ⟨y, rfl, .inr ⟨hge, h1, h2⟩⟩
          · omega
        · rintro ⟨y, rfl, ⟨h1, h2⟩ | ⟨h1, h2, h3⟩⟩
          · exact ⟨y, rfl, .inl ⟨by omega, by rw [so1 k h1]; exact h2⟩⟩
          · exact ⟨y, rfl, .inl ⟨h2, by rw [so2 k h1]; exact h3⟩⟩
      · exact tf.deaf0
      · rcases Nat.lt_or_ge g κ with hlt | hge
        · exact tf.over i g hg h1 hlt hc
        · exact hover i g hg hge h2 hc
    · rcases Nat.lt_or_ge k κ with hlt | hge
      · rw [so1 k hlt] at hy
        obtain ⟨a1, a2, a3, a4⟩ := hcom.so k hlt y hy
        exact ⟨hz y a1 a4, fun h => (hm y h).1 (hz y a1 a4), a3, a4⟩
      · rw [so2 k hge] at hy
        obtain ⟨a1, a2, a3, a4, _⟩ := hcom.sw (k - κ) (by omega) y hy
        exact ⟨hz y a1 a4, fun h => (hm y h).1 (hz y a1 a4), a3, a4⟩

theorem bk_dis' {wg : Nat} : ∀ e ∈ #[mk .disable], Bk wg e := by intro e he; simp at he; subst he; exact .inl rfl
theorem bk_en' {wg : Nat} : ∀ e ∈ #[mk .enable], Bk wg e := by intro e he; simp at he; subst he; exact .inr (.inl rfl)
theorem bk_rd' {wg : Nat} : ∀ e ∈ #[rd (stA wg)], Bk wg e := by intro e he; simp at he; subst he; exact bk_cell _ _ rfl
theorem bk_rw' {wg : Nat} : ∀ e ∈ #[rd (stA wg), wr (stA wg)], Bk wg e := by intro e he; simp at he; rcases he with rfl | rfl <;> exact bk_cell _ _ rfl
theorem bk_sem' {wg : Nat} : ∀ e ∈ semEvents (smA wg), Bk wg e := by
  intro e he
  simp [semEvents] at he
  rcases he with rfl | rfl | rfl | rfl
  · exact .inl rfl
  · exact bk_cell _ _ rfl
  · exact bk_cell _ _ rfl
  · exact .inr (.inl rfl)

/-- The run ends well from here. -/
def Ends (P : Program) (Fin : Value → World → Prop) (gs : Array Goroutine) (w : World) (sl : Option (Nat × Nat)) (t : Trace) : Prop :=
  ∃ M last o w' t', runNT P (M + 1) (crowd gs w sl) t = (.ended o w', t') ∧ runN P M (crowd gs w sl) = .next last ∧ step P last = .ended o w' ∧ Good P Fin last o w' t'
/-- The starter stands at g in world w (whatever the count of draws), all others only leave: whatever they are, the run ends well. -/
def Done (P : Program) (ty : TypeId) (Fin : Value → World → Prop) (st : MSt) (g : Goroutine) (w : World) : Prop :=
  ∀ (d : Nat) (gs : Array Goroutine) (sl : Option (Nat × Nat)) (κ j : Nat) (D : Nat → KD) (So : Nat → Nat → Prop) (qo : Nat → Nat) (t : Trace), gs[0]? = some g → Com P ty κ j gs (w.at d) t D So qo st → Ends P Fin gs (w.at d) sl t
theorem Done.at {Fin : Value → World → Prop} {st : MSt} {g : Goroutine} {w : World} {d : Nat} (h : Done P ty Fin st g (w.at d)) : Done P ty Fin st g w := fun d' gs sl κ j D So qo t h0 hc => h d' gs sl κ j D So qo t h0 hc

set_option maxHeartbeats 3200000 in
/-- EVERY STEP OF THE STARTER's. -/
theorem stepMain (ha : gs[0]? = some a) (hcs : CS P ty Post st N f b a w) (hcom : Com P ty κ j gs w t D So qo st) (hgm : st.tag ≠ .law → GM ty st j D b w) (hrun : a.status = .running) :
    (st.tag = .law ∧ st.d = 0 ∧ Post st a w) ∨
    (∃ m₁ ops μ', runT P (crowd gs w sl) 0 = (.next m₁, ops) ∧ Lt2 μ' (mu κ j D qo N f) ∧ Inv P ty Post μ' m₁ (t ++ ops)) := by
  cases hcs with
  | park _ _ _ _ _ => cases hrun
  | sem _ _ _ => cases hrun
  | run h =>
    rename_i N m
    rcases Goes.cases h with hstop | ⟨m', rfl, hstep⟩
    · obtain ⟨_, hst⟩ := hstop w (ROf.refl ty st w)
      cases hst with
      | new o g' htag hd hgo hK =>
        have hl : st.tag ≠ .law := by rw [htag]; simp
        obtain ⟨m₂, hcs'⟩ := sc_pos hK
        have hsame : ∀ x, x < w.heap.size → (w.alloc o).heap[x]? = w.heap[x]? := fun x hx => heap_alloc_ne _ _ hx
        have sz : (w.alloc o).heap.size = w.heap.size + 1 := by simp
        have hw := hsame st.wg (hcom.grp hl).2
        refine .inr (mainGo (b' := false) ha hcom hgo hcs' (hcom.main (by simp) (gs_main hcom _ _ _) rfl rfl rfl rfl rfl Iff.rfl (fun x hx => hx.imp id fun e => ⟨e, by rw [sz]; omega⟩) (by rw [sz]; omega) (fun x hx _ _ _ => hsame x hx) (fun _ => live_of hw)
          (show ∀ x, x < j → ChanAt (w.alloc o) (st.q (D x).c) (D x) from chan_same hcom fun x hx => hsame _ (hcom.clt hx)) (tf_main hcom (by rw [sz]; omega) (by simp)) fun x h1 hx => ?_) (fun _ => ?_) (.inl (Nat.lt_succ_self _)))
        · exact Deaf_other t (g' := 0) (by omega) _ g_of_ofEvents
        · have := (hgm hl).world (w' := w.alloc o) hw
          exact ⟨this.mode, this.bd, this.bdm⟩
      | newc o g' htag hd hgo hK => exact .inr (newcStep ha hcom (hgm (by rw [htag]; simp)) htag hgo hK)
      | wg g' Z may htag hd hgo hM hm hK => exact .inr (wgStep ha hcom htag trivial hgo hM hm hK)
      | dis g' htag hd hgo hK =>
        have hl : st.tag ≠ .law := by rw [htag]; simp
        obtain ⟨m₂, hcs'⟩ := sc_pos hK
        have hg := hgm hl
        exact .inr (bookMain (tag' := st.tag) (bd' := st.bd) (b' := false) ha hcom hl hgo (.refl st.wg w) bk_dis' hl (by rw [hd]; rfl) hcs' ⟨hg.mode, hg.bd, hg.bdm⟩ (.inl (Nat.lt_succ_self _)))
      | en g' htag hd hgo hK =>
        have hl : st.tag ≠ .law := by rcases htag with h | h <;> rw [h] <;> simp
        obtain ⟨m₂, hcs'⟩ := sc_pos hK
        have hg := hgm hl
        exact .inr (bookMain (tag' := st.tag) (bd' := st.bd) (b' := false) ha hcom hl hgo (.refl st.wg w) bk_en' hl (by rw [hd]; rfl) hcs' ⟨hg.mode, hg.bd, hg.bdm⟩ (.inl (Nat.lt_succ_self _)))
      | add htag hd hbd hall =>
        have hl : st.tag ≠ .law := by rw [htag]; simp
        obtain ⟨⟨sv, mv, hwg, hmode⟩, hb1, hb2⟩ := hgm hl
        have htg : tgOf st.tag false = .kd := by rw [htag]; rfl
        rw [htg] at hmode
        obtain ⟨ho, rfl, rfl, _⟩ := hmode.open_inv trivial
        have hVj := Vc_le j (D7 D)
        have hj1 := hcom.j1
        obtain ⟨g', hgo, hK⟩ := hall (Vc j (D7 D)) (by omega) (by simpa [pend] using hwg)
        obtain ⟨m₂, hcs'⟩ := sc_pos hK
        have hbf := hb1 false htag
        refine .inr (bookMain (tag' := .opn true) (d' := st.d) (bd' := st.bd + 1) (b' := false) ha hcom hl hgo (aside_setCell w (stA st.wg) _) bk_rw' (by simp) rfl hcs' ⟨⟨_, 0, hwg.setSt _, ?_⟩, fun p hp => ?_, trivial⟩ (.inl (Nat.lt_succ_self _)))
        · have := ConcN.Mode.opn (j := j) (D := D7 D) (tag := CTag.sp 0 3) trivial ho (by simp)
          simpa [pend, tgOf] using this
        · cases hp
          simp at hbf ⊢
          exact hbf
      | go g' child S c Nw vs may htag hd hgo hcr hm hS hc hcm hcc hcw hvs hNw hgs hwk hK => exact .inr (goStep ha hcom (hgm (by rw [htag]; simp)) htag hd hgo hm hS hc hcm hcc hcw hvs hNw hgs hwk hK)
      | recv c z g₂ htag hd hch hR => exact .inr (recvStep ha hcom (hgm (by rw [htag]; simp)) htag hd hch hR (by omega))
      | w1 htag hd hall =>
        have hl : st.tag ≠ .law := by rw [htag]; simp
        obtain ⟨⟨sv, mv, hwg, hmode⟩, hb1, hb2⟩ := hgm hl
        have htg : tgOf st.tag false = .kd := by rw [htag]; rfl
        rw [htg] at hmode
        obtain ⟨ho, rfl, rfl, _⟩ := hmode.open_inv trivial
        have hbf := hb1 false htag
        simp at hbf
        obtain ⟨g', hgo, h0, hne⟩ := hall (Vc j (D7 D)) hbf (by simpa [pend] using hwg)
        by_cases hv : Vc j (D7 D) = 0
        · obtain ⟨m₂, hcs'⟩ := sc_pos (h0 hv)
          refine .inr (bookMain (tag' := .fin) (d' := st.d) (bd' := st.bd) (b' := false) ha hcom hl hgo (.refl st.wg w) bk_rd' (by simp) rfl hcs' ⟨⟨0, 0, ?_, .fin trivial (allQuit_of ho hv)⟩, fun p hp => (by cases hp), trivial⟩ (.inl (Nat.lt_succ_self _)))
          simpa [pend, hv] using hwg
        · obtain ⟨m₂, hcs'⟩ := sc_pos (hne hv)
          refine .inr (bookMain (tag' := .w2 (Vc j (D7 D))) (d' := st.d) (bd' := st.bd) (b' := false) ha hcom hl hgo (.refl st.wg w) bk_rd' (by simp) rfl hcs' ⟨⟨_, 0, hwg, ?_⟩, fun p hp => (by cases hp), trivial⟩ (.inl (Nat.lt_succ_self _)))
          have := ConcN.Mode.opn (j := j) (D := D7 D) (tag := CTag.w2 (Vc j (D7 D))) trivial ho (fun vs e => by cases e; omega)
          simpa [pend, tgOf] using this
      | w2 vs htag hd hall =>
        have hl : st.tag ≠ .law := by rw [htag]; simp
        obtain ⟨⟨sv, mv, hwg, hmode⟩, hb1, hb2⟩ := hgm hl
        have htg : tgOf st.tag false = .w2 vs := by rw [htag]; rfl
        rw [htg] at hmode
        obtain ⟨ho, rfl, rfl, hvs⟩ := hmode.open_inv trivial
        obtain ⟨h1, h2⟩ := hvs vs rfl
        obtain ⟨hhit, hmiss⟩ := hall (Vc j (D7 D)) h1 (by simpa [pend] using hwg)
        by_cases hv : Vc j (D7 D) = vs
        · obtain ⟨g', hgo, hK⟩ := hhit hv
          obtain ⟨m₂, hcs'⟩ := sc_pos hK
          exact .inr (bookMain (tag' := .w3) (d' := st.d) (bd' := st.bd) (b' := false) ha hcom hl hgo (aside_setCell w (stA st.wg) _) bk_rw' (by simp) rfl hcs' ⟨⟨_, 0, hwg.setSt _, .reg trivial ho (by omega)⟩, fun p hp => (by cases hp), trivial⟩ (.inl (Nat.lt_succ_self _)))
        · obtain ⟨g', hgo, hK⟩ := hmiss (by omega)
          obtain ⟨m₂, hcs'⟩ := sc_pos hK
          have hVj := Vc_le j (D7 D)
          have hj1 := hcom.j1
          refine .inr (bookMain (tag' := .opn false) (d' := st.d) (bd' := vs - 1) (b' := false) ha hcom hl hgo (.refl st.wg w) bk_rd' (by simp) rfl hcs' ⟨⟨_, 0, hwg, ?_⟩, fun p hp => ?_, ?_⟩ (.inl (Nat.lt_succ_self _)))
          · have := ConcN.Mode.opn (j := j) (D := D7 D) (tag := CTag.kd) trivial ho (by simp)
            simpa [pend, tgOf] using this
          · cases hp; simp; omega
          · trivial
      | w3 htag hd hsem =>
        have hl : st.tag ≠ .law := by rw [htag]; simp
        obtain ⟨⟨sv, mv, hwg, hmode⟩, hb1, hb2⟩ := hgm hl
        have htg : tgOf st.tag false = .w3 := by rw [htag]; rfl
        rw [htg] at hmode
        have block : (∃ s, WgAt ty st.wg w s 0) → ConcN.Mode j (D7 D) .blk sv mv → _ := fun hs hm' =>
          (bookMain (tag' := st.tag) (d' := st.d) (bd' := st.bd) (N := N + 1) (f := m + 1) (sl := sl) (b' := true) ha hcom hl (hsem.wait w (ROf.refl ty st w) hs) (.refl st.wg w) (by simp) hl rfl (.sem htag hd fun w₁ r₁ => hsem.rely r₁) ⟨⟨sv, mv, hwg, by show ConcN.Mode j (D7 D) (tgOf st.tag true) sv mv; rw [htag]; exact hm'⟩, hb1, hb2⟩ (.inr ⟨rfl, by omega⟩) :
            ∃ m₁ ops μ', runT P (crowd gs w sl) 0 = (.next m₁, ops) ∧ Lt2 μ' (mu κ j D qo (N + 1) (m + 1)) ∧ Inv P ty Post μ' m₁ (t ++ ops))
        cases hmode with
        | opn h1 _ _ => exact h1.elim
        | reg h1 h2 h3 => exact .inr (block ⟨_, hwg⟩ (.reg trivial h2 h3))
        | last L h1 h2 h3 h4 => exact .inr (block ⟨_, hwg⟩ (.last L trivial h2 h3 h4))
        | sema h2 =>
          obtain ⟨g', hgo, hK⟩ := hsem.pass w (ROf.refl ty st w) hwg
          obtain ⟨m₂, hcs'⟩ := sc_pos hK
          exact .inr (bookMain (tag' := .fin) (d' := st.d) (bd' := st.bd) (b' := false) ha hcom hl hgo (aside_setCell w (smA st.wg) _) bk_sem' (by simp) (by rw [hd]; simp [deafBehind, semEvents]) hcs' ⟨⟨0, 0, hwg.setSm 0, .fin trivial h2⟩, fun p hp => (by cases hp), trivial⟩ (.inl (Nat.lt_succ_self _)))
        | fin h1 _ => exact h1.elim
      | w4 htag hd hx =>
        have hl : st.tag ≠ .law := by rw [htag]; simp
        obtain ⟨⟨sv, mv, hwg, hmode⟩, hb1, hb2⟩ := hgm hl
        have htg : tgOf st.tag false = .ke := by rw [htag]; rfl
        rw [htg] at hmode
        obtain ⟨hq, rfl, rfl⟩ := hmode.fin_inv trivial
        obtain ⟨g', hgo, hK⟩ := hx hwg
        obtain ⟨m₂, hcs'⟩ := sc_pos hK
        exact .inr (bookMain (tag' := st.tag) (d' := st.d) (bd' := st.bd) (b' := false) ha hcom hl hgo (.refl st.wg w) bk_rd' hl rfl hcs' ⟨⟨0, 0, hwg, by show ConcN.Mode j (D7 D) (tgOf st.tag false) 0 0; rw [htg]; exact hmode⟩, hb1, hb2⟩ (.inl (Nat.lt_succ_self _)))
      | acq g' may zone htag hd hgo hz hm hK => exact .inr (acqStep ha hcom (hgm (by rw [htag]; simp)) htag hd hgo hz hm hK)
      | cont htag hd hp => exact .inl ⟨htag, hd, hp⟩
    · obtain ⟨g', w', es, hgo, hD, hg'⟩ := hstep w (ROf.refl ty st w)
      exact .inr (idleMain ha hcom hgm hgo hD (.run hg') (by omega))
end

end Go.Proofs.YtiodikflmijhkaaGreatDoor.Farm
