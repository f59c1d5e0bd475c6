/- Joined texts: F11 G1. -/
import Derived.Test.YtiodikflmijhkaaGreatDoorJ20
import Derived.Conc.CrowdMono
import Derived.Conc.WgGenN3
section
set_option linter.unusedSectionVars false
set_option linter.unusedVariables false
namespace Go.Proofs.YtiodikflmijhkaaGreatDoor.Farm
open Go.Conc Go.ConcN
open Go.ConcR (KK wgBlock WgAt stA smA rd wr mk Payload Aside2 DC0 Bk g_of_ofEvents)
variable [Payload]

section
variable {P : Program} {ty : TypeId} {Post : MSt → Goroutine → World → Prop} {κ j : Nat} {gs : Array Goroutine} {w w' : World} {sl : Option (Nat × Nat)} {t : Trace} {D : Nat → KD} {So : Nat → Nat → Prop} {qo : Nat → Nat} {st : MSt} {N f : Nat} {b : Bool} {a : Goroutine}

/-- NO DEADLOCK. -/
theorem someone_runs (ha : gs[0]? = some a) (hcs : CS P ty Post st N f b a w) (hcom : Com P ty κ j gs w t D So qo st) (hgm : st.tag ≠ .law → GM ty st j D b w) : ∃ (i : Nat) (g : Goroutine), gs[i]? = some g ∧ g.status = .running := by
  cases hcs with
  | run h => exact ⟨0, a, ha, Goes.running (fun _ _ x => x.1) w (ROf.refl ty st w) h⟩
  | park h1 h2 h3 h4 h5 =>
    have hl : st.tag ≠ .law := by rw [h1]; simp
    obtain ⟨i, hi, rfl⟩ := hcom.chs _ hl h3
    obtain ⟨buf, s, r, c1, _⟩ := hcom.chan i hi
    obtain ⟨s', r', c2⟩ := h4
    rw [c1] at c2
    simp at c2
    obtain ⟨g, hg, hk⟩ := hcom.wk i hi
    exact ⟨κ + i, g, hg, hk.running_of (by omega)⟩
  | sem h1 h2 h3 =>
    have hl : st.tag ≠ .law := by rw [h1]; simp
    obtain ⟨⟨sv, mv, _, hmode⟩, _, _⟩ := hgm hl
    have htg : tgOf st.tag true = .blk := by rw [h1]; rfl
    rw [htg] at hmode
    cases hmode with
    | opn h1 _ _ => exact h1.elim
    | reg _ _ h3 =>
      obtain ⟨i, hi, h5⟩ := exists_counted h3
      obtain ⟨g, hg, hk⟩ := hcom.wk i hi
      exact ⟨κ + i, g, hg, hk.running_of (by simp only [D7] at h5; omega)⟩
    | last L _ h2 h3 _ =>
      obtain ⟨g, hg, hk⟩ := hcom.wk L h2
      exact ⟨κ + L, g, hg, hk.running_of (by simp only [D7] at h3; omega)⟩
    | fin h1 _ => exact h1.elim

theorem all_awake (ha : gs[0]? = some a) (hcs : CS P ty Post st N f b a w) (hcom : Com P ty κ j gs w t D So qo st) : ∀ g ∈ gs, awake g := by
  intro g hg
  obtain ⟨i, hi⟩ := Array.mem_iff_getElem?.1 hg
  apply awake_of
  rcases Nat.eq_zero_or_pos i with rfl | hp
  · rw [ha] at hi; cases hi
    rcases hcs.status with ⟨h, _⟩ | ⟨h, _⟩
    · exact .inl h
    · exact .inr (.inl h)
  · have hlt := (Array.getElem?_eq_some_iff.1 hi).1
    rw [hcom.size] at hlt
    rcases Nat.lt_or_ge i κ with h1 | h1
    · obtain ⟨y, hy, hq⟩ := hcom.old i hp h1
      rw [hi] at hy; cases hy
      exact hq.status.elim .inl fun x => .inr (.inr x)
    · obtain ⟨y, hy, hk⟩ := hcom.wk (i - κ) (by omega)
      rw [show κ + (i - κ) = i by omega, hi] at hy; cases hy
      exact hk.status.elim .inl fun x => .inr (.inr x)

/-- A LEAVER's STEP. -/
theorem stepOld (ha : gs[0]? = some a) (hcs : CS P ty Post st N f b a w) (hcom : Com P ty κ j gs w t D So qo st) (hgm : st.tag ≠ .law → GM ty st j D b w) {i : Nat} (h1 : 1 ≤ i) (hi : i < κ) {g : Goroutine} (hg : gs[i]? = some g) (hrun : g.status = .running) :
    ∃ m₁ ops μ', runT P (crowd gs w sl) i = (.next m₁, ops) ∧ Lt2 μ' (mu κ j D qo N f) ∧ Inv P ty Post μ' m₁ (t ++ ops) := by
  obtain ⟨y, hy, hq⟩ := hcom.old i h1 hi
  rw [hg] at hy; cases hy
  cases hqi : qo i with
  | zero => rw [hqi] at hq; rw [hq.1] at hrun; cases hrun
  | succ k =>
    rw [hqi] at hq
    rcases hq with ⟨hf, _⟩ | ⟨_, g', es, hm, hstp, hq'⟩
    · rw [hf] at hrun; cases hrun
    have hr := runT_crowd_go (P := P) (sl := sl) (i := i) hg (by rw [show (i == 0) = false by simp; omega]; exact hstp w)
    obtain ⟨f', b', hcs', hf', hb', _⟩ := hcs.woken (w' := w) (ROf.refl ty st w) (fun _ _ _ _ _ => rfl) g g'
    have hsum := sumTo_upd qo k id hi
    simp only [id] at hsum
    have h8 : sumTo κ (upd qo i k) + qo i = sumTo κ qo + k := hsum
    refine ⟨_, _, mu κ j D (upd qo i k) N f', hr, ?_, _, w, sl, κ, j, D, So, upd qo i k, st, N, f', b', Conc.woken P g g' w a, rfl, ?_, hcs', hcom.slip h1 hi hm hq' (by simp) (get_map_set_same _ _ _ (by rw [hcom.size]; omega)) (fun z hz e => ?_), fun hl => ?_, rfl⟩
    · unfold mu
      refine Prod.Lex.right _ ?_
      omega
    · rw [get_map_set _ _ _ _ (by omega), ha]; rfl
    · rw [get_map_set _ _ _ _ (by omega)]
      cases hgz : gs[z]? with
      | none => rfl
      | some v =>
        rcases Nat.lt_or_ge z κ with hlt' | hge
        · obtain ⟨x, hx, hqx⟩ := hcom.old z hz hlt'
          rw [hgz] at hx; cases hx
          simp [woken_quitsD hqx]
        · have hzj : z - κ < j := by have := (Array.getElem?_eq_some_iff.1 hgz).1; rw [hcom.size] at this; omega
          obtain ⟨x, hx, hks⟩ := hcom.wk (z - κ) hzj
          rw [show κ + (z - κ) = z by omega, hgz] at hx; cases hx
          simp [hks.woken]
    · obtain ⟨⟨s, m, p1, p2⟩, p3, p4⟩ := hgm hl
      exact ⟨⟨s, m, p1, p2.retag (tg_retag _ hb')⟩, p3, p4⟩

/-- A step of the machine: the run goes on within the invariant; or the starter stands, alone but for leavers, where it was to come to. -/
theorem farm_step : ∀ μ m t, Inv P ty Post μ m t →
    (∃ (gs : Array Goroutine) (w : World) (sl : Option (Nat × Nat)) (κ j : Nat) (D : Nat → KD) (So : Nat → Nat → Prop) (qo : Nat → Nat) (st : MSt) (a : Goroutine) (sl' : Option (Nat × Nat)) (d : Nat), m = crowd gs w sl ∧ gs[0]? = some a ∧ Com P ty κ j gs (w.at d) t D So qo st ∧ st.tag = .law ∧ st.d = 0 ∧ Post st a (w.at d) ∧ stepT P m = runT P (crowd gs (w.at d) sl') 0) ∨
    (∃ m' ops μ', stepT P m = (.next m', ops) ∧ Lt2 μ' μ ∧ Inv P ty Post μ' m' (t ++ ops)) := by
  rintro μ m t ⟨gs, w, sl, κ, j, D, So, qo, st, N, f, b, a, rfl, ha, hcs, hcom, hgm, rfl⟩
  obtain ⟨i, g, d, sl', hg, hrun, hstep⟩ := crowd_pick (P := P) (w := w) (sl := sl) (all_awake ha hcs hcom) (someone_runs ha hcs hcom hgm)
  have hcs' := hcs.rely (ROf.at ty st w d) (fun _ _ _ _ _ => rfl)
  have hcom' := hcom.at d
  have hgm' : st.tag ≠ .law → GM ty st j D b (w.at d) := fun hl => (hgm hl).world rfl
  rcases Nat.eq_zero_or_pos i with rfl | hp
  · rw [ha] at hg; cases hg
    rcases stepMain (sl := sl') ha hcs' hcom' hgm' hrun with ⟨h1, h2, h3⟩ | h
    · exact .inl ⟨gs, w, sl, κ, j, D, So, qo, st, a, sl', d, rfl, ha, hcom', h1, h2, h3, hstep⟩
    · rw [hstep]; exact .inr h
  · rw [hstep]
    have hlt := (Array.getElem?_eq_some_iff.1 hg).1
    rw [hcom.size] at hlt
    rcases Nat.lt_or_ge i κ with h1 | h1
    · exact .inr (stepOld ha hcs' hcom' hgm' hp h1 hg hrun)
    · have e : κ + (i - κ) = i := by omega
      have := stepWorker (sl := sl') ha hcs' hcom' hgm' (i := i - κ) (by omega) (by rw [e]; exact hg) hrun
      rw [e] at this
      exact .inr this
theorem ends_next {Fin : Value → World → Prop} {m m' : Machine} {ops : Trace} (hs : stepT P m = (.next m', ops))
    (h : ∃ M last o w' t', runNT P (M + 1) m' (t ++ ops) = (.ended o w', t') ∧ runN P M m' = .next last ∧ step P last = .ended o w' ∧ Good P Fin last o w' t') :
    ∃ M last o w' t', runNT P (M + 1) m t = (.ended o w', t') ∧ runN P M m = .next last ∧ step P last = .ended o w' ∧ Good P Fin last o w' t' := by
  obtain ⟨M, last, o, w', t', h1, h2, h3, h4⟩ := h
  exact ⟨M + 1, last, o, w', t', by rw [runNT_succ_next hs]; exact h1, by rw [runN_succ_next hs]; exact h2, h3, h4⟩

/-- ████ FROM THE INVARIANT TO THE END, ON EVERY TAPE. ████ -/
theorem farm_ends {Fin : Value → World → Prop} (hZ : ∀ st g w, Post st g w → st.tag = .law → st.d = 0 → Done P ty Fin st g w) :
    ∀ μ m t, Inv P ty Post μ m t → ∃ M last o w' t', runNT P (M + 1) m t = (.ended o w', t') ∧ runN P M m = .next last ∧ step P last = .ended o w' ∧ Good P Fin last o w' t' := by
  intro μ
  have wf : WellFounded Lt2 := (Prod.lex Nat.lt_wfRel Nat.lt_wfRel).wf
  induction μ using wf.induction with
  | _ μ ih =>
    intro m t hI
    rcases farm_step μ m t hI with ⟨gs, w, sl, κ, j, D, So, qo, st, a, sl', d, rfl, h0, hc, h1, h2, h3, _⟩ | ⟨m', ops, μ', hs, hr, hI'⟩
    · have := (hZ st a _ h3 h1 h2).at w.drawn gs sl κ j D So qo t h0 (hc.at w.drawn)
      exact this
    · exact ends_next hs (ih μ' hr m' _ hI')

/-- A PHASE: from where the starter has a script, alone but for leavers. -/
theorem done_of_sc {Fin : Value → World → Prop} {g : Goroutine} (hZ : ∀ st g w, Post st g w → st.tag = .law → st.d = 0 → Done P ty Fin st g w) (htag : st.tag = .law) (h : Sc P ty Post N st g w) : Done P ty Fin st g w := by
  intro d gs sl κ j D So qo t h0 hc
  obtain ⟨m, hcs⟩ := sc_pos (h.rely (ROf.at ty st w d))
  exact farm_ends hZ _ _ _ ⟨gs, w.at d, sl, κ, j, D, So, qo, st, N, m + 1, false, g, rfl, h0, hcs, hc, fun hl => absurd htag hl, rfl⟩

/-- The starter's own walk, alone but for leavers. -/
theorem done_of_goes {Fin : Value → World → Prop} {Stop : Goroutine → World → Prop} {n : Nat} {g : Goroutine} (htag : st.tag = .law) (hd : st.d = 0) (hrun : ∀ g w, Stop g w → g.status = .running) (h : Goes P true (ROf ty st) (DM st) Stop n g w)
    (hS : ∀ g w, Stop g w → Done P ty Fin st g w) : Done P ty Fin st g w :=
  done_of_sc (Post := fun st' g w => st' = st ∧ Stop g w) (N := 1) (fun st' g w ⟨e, hs⟩ _ _ => by subst e; exact hS g w hs) htag ⟨n, goes_mono (fun g w hs => ⟨hrun g w hs, .cont htag hd ⟨rfl, hs⟩⟩) h⟩

theorem runT_ended' {gs : Array Goroutine} {w w' : World} {sl : Option (Nat × Nat)} {g : Goroutine} {o : Outcome} {es : Array Event} (hi : gs[0]? = some g) (h : stepG P true g w = .ended o w' es) :
    runT P (crowd gs w sl) 0 = (.ended o w', MemOp.ofEvents 0 g.frame.fn g.frame.place es) := runT_many_ended (P := P) (sl := sl) (i := 0) hi (show stepG P ((0 : Nat) == 0) g w = _ from h)

/-- The starter's step that ends the run. -/
def FinAt (P : Program) (Fin : Value → World → Prop) (st : MSt) (g : Goroutine) (w : World) : Prop := g.status = .running ∧ ∀ d, ∃ v es, stepG P true g (w.at d) = .ended (.done v) (w.at d) es ∧ (∀ e ∈ es, EvM st w.heap.size e) ∧ Fin v (w.at d)

theorem good_of_end {Fin : Value → World → Prop} (htag : st.tag = .law) (ha : gs[0]? = some a) (hcom : Com P ty κ j gs w t D So qo st) {v : Value} {es : Array Event} (hev : ∀ e ∈ es, EvM st w.heap.size e) (hp : Fin v w) (sl₀ : Option (Nat × Nat)) (w₀ : World) :
    Good P Fin (crowd gs w₀ sl₀) (.done v) w (t ++ MemOp.ofEvents 0 a.frame.fn a.frame.place es) := by
  have tf := tf_main (w' := w) (fn := a.frame.fn) (pos := a.frame.place) hcom (Nat.le_refl _) hev
  have hj := hcom.lawj htag
  subst hj
  refine ⟨v, rfl, hp, tf.ct.nr, fun i g hg hne hc => ?_, ⟨fun x hx => ?_, rfl⟩, fun i x hx hi => ?_⟩
  · have hgl : g ≤ κ + 0 - 1 := by
      obtain ⟨op, ho, rfl⟩ := Option.map_eq_some_iff.1 hg
      exact tf.ct.gs i op ho
    have := hcom.k1
    exact tf.over i g hg (by omega) (by omega) hc
  · obtain ⟨i, hi⟩ := List.mem_iff_getElem?.1 hx
    rw [List.getElem?_drop] at hi
    have hi' : gs[1 + i]? = some x := by simpa [crowd] using hi
    have hlt := (Array.getElem?_eq_some_iff.1 hi').1
    rw [hcom.size] at hlt
    obtain ⟨y, hy, hq⟩ := hcom.old (1 + i) (by omega) (by omega)
    rw [hi'] at hy; cases hy
    exact ⟨_, hq.leaves⟩
  · have hx' : gs[i]? = some x := hx
    have hlt := (Array.getElem?_eq_some_iff.1 hx').1
    rw [hcom.size] at hlt
    obtain ⟨y, hy, hq⟩ := hcom.old i (by omega) (by omega)
    rw [hx'] at hy; cases hy
    refine ⟨qo i, ?_⟩
    have e : (t ++ MemOp.ofEvents 0 a.frame.fn a.frame.place es).deaf i (t ++ MemOp.ofEvents 0 a.frame.fn a.frame.place es).size = Deaf t i := Deaf_other t (g := i) (g' := 0) (by omega) _ g_of_ofEvents
    rw [e]
    exact hq.hears _

/-- The run ends: leavers may slip meanwhile. -/
theorem done_of_fin {Fin : Value → World → Prop} {g : Goroutine} (htag : st.tag = .law) (h : FinAt P Fin st g w) : Done P ty Fin st g w := by
  intro d gs sl κ j D So qo t h0 hc
  obtain ⟨hrun, hfin⟩ := h
  -- the leavers' steps left
  have key : ∀ n (gs : Array Goroutine) (d : Nat) (sl : Option (Nat × Nat)) (qo : Nat → Nat) (t : Trace), sumTo κ qo ≤ n → gs[0]? = some g → Com P ty κ j gs (w.at d) t D So qo st → Ends P Fin gs (w.at d) sl t := by
    intro n
    induction n with
    | zero => ?_
    | succ n ih => ?_
    all_goals
      intro gs d sl qo t hq h0 hc
      have haw : ∀ x ∈ gs, awake x := by
        intro x hx
        obtain ⟨i, hi⟩ := Array.mem_iff_getElem?.1 hx
        apply awake_of
        rcases Nat.eq_zero_or_pos i with rfl | hp
        · rw [h0] at hi; cases hi; exact .inl hrun
        · have hlt := (Array.getElem?_eq_some_iff.1 hi).1
          have hj := hc.lawj htag
          rw [hc.size] at hlt
          obtain ⟨y, hy, hqq⟩ := hc.old i hp (by omega)
          rw [hi] at hy; cases hy
          exact hqq.status.elim .inl fun x => .inr (.inr x)
      obtain ⟨i, x, d', sl', hi, hx, hstep⟩ := crowd_pick (P := P) (w := w.at d) (sl := sl) haw ⟨0, g, h0, hrun⟩
      have hc' := hc.at d'
      rcases Nat.eq_zero_or_pos i with rfl | hp
      · rw [h0] at hi; cases hi
        obtain ⟨v, es, hend, hev, hF⟩ := hfin d'
        have hr := runT_ended' (P := P) (sl := sl') h0 hend
        have hg := good_of_end (Fin := Fin) (w := w.at d') htag h0 hc' hev hF sl (w.at d)
        exact ⟨0, _, .done v, w.at d', _, by simp only [runNT, hstep]; rw [show (crowd gs ((w.at d).at d') sl') = crowd gs (w.at d') sl' from rfl, hr], rfl, by simp only [step, hstep]; rw [show (crowd gs ((w.at d).at d') sl') = crowd gs (w.at d') sl' from rfl, hr], hg⟩
      · have hlt := (Array.getElem?_eq_some_iff.1 hi).1
        have hj := hc.lawj htag
        rw [hc.size] at hlt
        obtain ⟨y, hy, hqq⟩ := hc'.old i hp (by omega)
        rw [hi] at hy; cases hy
        cases hqi : qo i with
        | zero => rw [hqi] at hqq; rw [hqq.1] at hx; cases hx
        | succ k =>
          rw [hqi] at hqq
          rcases hqq with ⟨hf, _⟩ | ⟨_, g', es, hm, hstp, hq'⟩
          · rw [hf] at hx; cases hx
          have hr := runT_crowd_go (P := P) (sl := sl') (w := w.at d') (i := i) hi (by rw [show (i == 0) = false by simp; omega]; exact hstp (w.at d'))
          have h8 : sumTo κ (upd qo i k) + qo i = sumTo κ qo + k := sumTo_upd qo k id (show i < κ by omega)
          have hslip := hc'.slip (k := k) (g' := g') hp (show i < κ by omega) hm hq' (gs' := (gs.map (Conc.woken P x g' (w.at d'))).setIfInBounds i g') (fn := x.frame.fn) (pos := x.frame.place) (by simp) (get_map_set_same _ _ _ (by rw [hc.size]; omega)) (fun z hz e => by
            rw [get_map_set _ _ _ _ (by omega)]
            cases hgz : gs[z]? with
            | none => rfl
            | some v =>
              have hltz := (Array.getElem?_eq_some_iff.1 hgz).1
              rw [hc.size] at hltz
              obtain ⟨u, hu, hqx⟩ := hc.old z hz (by omega)
              rw [hgz] at hu; cases hu
              simp [woken_quitsD hqx])
          have h00 : ((gs.map (Conc.woken P x g' (w.at d'))).setIfInBounds i g')[0]? = some g := by rw [get_map_set _ _ _ _ (by omega), h0]; simp [woken_run hrun]
          first
          | (exfalso; omega)
          | exact ends_next (by rw [hstep]; exact hr) (ih _ d' sl' (upd qo i k) _ (by omega) h00 hslip)
  exact key _ gs d sl qo t (Nat.le_refl _) h0 hc

/-- ████ FROM THE ENTRY TO THE RETURN, ON EVERY TAPE. ████ -/
theorem farm_run {Fin : Value → World → Prop} {g : Goroutine} (h : Done P ty Fin st g w) (htag : st.tag = .law) (hd : st.d = 0) (hgs : st.gs = 1) (hgrp : ∀ b, ¬ st.grp b) :
    ∃ M last o w' t', runNT P (M + 1) (solo g w) #[] = (.ended o w', t') ∧ runN P M (solo g w) = .next last ∧ step P last = .ended o w' ∧ Good P Fin last o w' t' := by
  have notouch : ∀ (i : Nat) (x : Touch), touchAt (#[] : Trace) i = some x → False := fun i x hx => by simp [touchAt, Trace.act?] at hx
  refine h w.drawn #[g] none 1 0 (fun _ => ⟨0, 0, 0, fun _ => False, fun _ => False, 0, []⟩) (fun _ _ => False) (fun _ => 0) #[] rfl ?_
  refine ⟨rfl, Nat.le_refl _, hgs, by omega, fun i hi => by omega, fun i h1 h2 => by omega, ⟨⟨fun i op x hi => by simp at hi, fun _ _ _ _ x => x.elim, fun k h1 h2 => by omega, fun l _ _ i x hx => (notouch i x hx).elim, fun l _ _ i x hx => (notouch i x hx).elim, fun said => ?_, fun i op hi => by simp at hi⟩, by simp, by rw [hd]; rfl, fun i hi => by omega, ⟨0, Nat.zero_le _, fun x _ i _ he => by simp [Trace.act?] at he, fun i hi => by omega⟩, fun i g hg => by simp [Trace.g?] at hg⟩,
    fun i hi => by omega, fun k hk b hb => hb.elim, fun i hi => by omega, fun i hi => by omega, fun i _ hi => by omega, fun i hi => by omega, fun i hi => by omega, fun i _ hi => by omega, fun i hi => by omega, fun _ hl _ => absurd htag hl, fun _ => rfl, fun hl => absurd htag hl, fun b _ => hgrp b, fun b hb => absurd hb (hgrp b), fun hl => absurd htag hl, fun hl => absurd htag hl⟩
  rintro ⟨i, j, _, ⟨x, y, hx, _⟩, _⟩
  simp [Trace.act?] at hx
end

end Go.Proofs.YtiodikflmijhkaaGreatDoor.Farm
end

section
set_option linter.unusedSectionVars false
set_option linter.unusedVariables false
namespace Go.Proofs.YtiodikflmijhkaaGreatDoor.Farm
open Go.Conc Go.ConcN Go.RowKit Go.Conc.Lib Go.ConcR.Gen Go.ConcN.Gen
open Go.ConcR (KK wgBlock WgAt stA smA rd wr mk Payload Aside2 DC0)
variable [Payload] {L : WgLink}

section
variable {P : Program} {main : Bool} {R : World → World → Prop} {D D' : World → World → Array Event → Prop} {Stop : Goroutine → World → Prop}

theorem goesD (hD : ∀ w w' es, D w w' es → D' w w' es) : ∀ {n : Nat} {g : Goroutine} {w : World}, Goes P main R D Stop n g w → Goes P main R D' Stop n g w
  | 0, _, _, h => h
  | n + 1, g, w, h => by
    rcases h with h | ⟨hr, h⟩
    · exact .inl h
    · refine .inr ⟨hr, fun w₁ r => ?_⟩
      obtain ⟨g', w', es, e, hd, hn⟩ := goes_elim (h w₁ r)
      rw [e]
      exact ⟨hD _ _ _ hd, goesD hD hn⟩

theorem goes_up {n m : Nat} {g : Goroutine} {w : World} (h : Goes P main R D Stop n g w) : Goes P main R D Stop (m + n) g w := by
  induction m with
  | zero => rwa [Nat.zero_add]
  | succ m ih => rw [Nat.succ_add]; exact ih.more

/-- A silent stretch, and what follows it. -/
theorem goes_join (hD : ∀ w, D w w #[]) (hR : ∀ w, R w w) {m : Nat} : ∀ {n : Nat} {g : Goroutine} {w : World}, Goes P main R DC0 (fun g w => Goes P main R D Stop m g w) n g w → Goes P main R D Stop (n + m) g w
  | 0, g, w, h => by rw [Nat.zero_add]; exact h w (hR w)
  | n + 1, g, w, h => by
    rcases h with h | ⟨hr, h⟩
    · exact goes_up (h w (hR w))
    · rw [Nat.succ_add]
      refine .inr ⟨hr, fun w₁ r => ?_⟩
      obtain ⟨g', w', es, e, ⟨rfl, rfl⟩, hn⟩ := goes_elim (h w₁ r)
      rw [e]
      exact ⟨hD _, goes_join hD hR hn⟩
end

section
variable {P : Program} {ty : TypeId} {Post : MSt → Goroutine → World → Prop} {st : MSt} {g : Goroutine} {w w' : World}

theorem dm_nil (w : World) : DM st w w #[] := ⟨Nat.le_refl _, fun _ => rfl, fun _ _ _ => rfl, by simp⟩
theorem dm_of_dc0 : ∀ w w' es, DC0 w w' es → DM st w w' es := by rintro w w' es ⟨rfl, rfl⟩; exact dm_nil _
theorem sc_of {N n : Nat} (h : Goes P true (ROf ty st) DC0 (fun g w => g.status = .running ∧ MStop P ty Post (Sc P ty Post N) st g w) n g w) : Sc P ty Post (N + 1) st g w := ⟨n, goesD dm_of_dc0 h⟩
theorem sc_join {N n m : Nat} (h : Goes P true (ROf ty st) DC0 (fun g w => Goes P true (ROf ty st) (DM st) (fun g w => g.status = .running ∧ MStop P ty Post (Sc P ty Post N) st g w) m g w) n g w) : Sc P ty Post (N + 1) st g w :=
  ⟨n + m, goes_join dm_nil (ROf.refl ty st) h⟩

theorem evM_said {a : Addr} {B : Nat} {m : Mark} (hm : m = .read a ∨ m = .write a) (hg : st.grp a.block) (hB : a.block < B) : EvM st B ⟨.mark m, false, true⟩ := by
  rcases hm with rfl | rfl
  all_goals
    refine ⟨fun x hx => ?_, by simp, by simp, by simp, hB⟩
    simp only [MemAct.ofEvent, MemAct.touch?, Option.some.injEq] at hx
    subst hx
    exact .inl ⟨hg, by simp⟩
theorem dm_said {a : Addr} {m : Mark} (hm : m = .read a ∨ m = .write a) (hg : st.grp a.block) (hB : a.block < w.heap.size) : DM st w w #[⟨.mark m, false, true⟩] :=
  ⟨Nat.le_refl _, fun _ => rfl, fun _ _ _ => rfl, fun e he => by rw [Array.mem_singleton] at he; subst he; exact evM_said hm hg hB⟩
theorem live_lt {wg : Nat} (h : WgLive ty wg w) : wg < w.heap.size := by
  obtain ⟨s, m, h⟩ := h
  have hc := h.cellSt
  unfold World.cell? stA at hc
  simp only at hc
  cases hb : w.heap[wg]? with
  | none => rw [hb] at hc; cases hc
  | some o => exact (Array.getElem?_eq_some_iff.1 hb).1

def mrOf (wg : Nat) (may grp chs : Nat → Prop) (b : Nat) : Prop := may b ∨ (grp b ∧ ¬ chs b ∧ wg < b)
theorem mr_wg {wg : Nat} {may grp chs : Nat → Prop} (h : ¬ may wg) : ¬ mrOf wg may grp chs wg := fun x => x.elim h fun y => Nat.lt_irrefl _ y.2.2
/-- What the starter knows, and that the group's block is one: over what it suffers. -/
theorem fm_of {wg : Nat} {may : Nat → Prop} {F : World → Prop} (hF2 : ∀ w w', RM ty wg may w w' → F w → F w') (hl : st.tag ≠ .law) (hw : st.wg = wg) (hm : st.mr = may) {w w₁ : World} (h : F w ∧ WgLive ty wg w) (r : ROf ty st w w₁) : F w₁ ∧ WgLive ty wg w₁ := by
  subst hw hm
  exact ⟨hF2 _ _ (r.2 hl) h.1, (r.2 hl).live h.2⟩
theorem fm_law {wg : Nat} {may : Nat → Prop} {F : World → Prop} (hF2 : ∀ w w', RM ty wg may w w' → F w → F w') (hl : st.tag = .law) {w w₁ : World} (h : F w ∧ WgLive ty wg w) (r : ROf ty st w w₁) : F w₁ ∧ WgLive ty wg w₁ := by
  obtain ⟨d, rfl⟩ := r.1 hl
  exact ⟨hF2 _ _ (RM.at w d) h.1, h.2⟩
theorem rm_set {wg : Nat} {may : Nat → Prop} (hm : ¬ may wg) {a : Addr} (ha : a.block = wg) (v : Value) (hL : WgLive ty wg w → WgLive ty wg (w.setCell a v)) : RM ty wg may w (w.setCell a v) := by
  have hA := aside_setCell w a v
  exact ⟨hA.tape, hA.os, hA.output, by rw [hA.size]; exact Nat.le_refl _, fun b hb => hA.block b (fun e => hm (by rw [← ha, ← e]; exact hb)), fun b hb => hA.block b (by rw [ha]; omega), hL⟩
end

section
variable {P : Program} {Post : MSt → Goroutine → World → Prop} {wg bd gs : Nat} {grp may zone chs : Nat → Prop} {q : Nat → List Value} {F : World → Prop} {N : Nat}
  {b₀ : Frame} {a₀ : Act} {ops₀ : Array Oper} {i₀ : Nat} {rest₀ : List Nat} {k₀ : List Item} {cs : List Frame}

set_option maxRecDepth 100000 in
set_option maxHeartbeats 8000000 in
/-- ████ Add(1), WHATEVER THE OTHERS DO MEANWHILE. ████ -/
theorem addFarm (H : WgLib P L) (hbd : bd < 1000) (hmay : ¬ may wg) (hgrp : grp wg) (hF2 : ∀ w w', RM L.tWg wg (mrOf wg may grp chs) w w' → F w → F w')
    (hM : ∃ mT, ∀ w, F w → WgLive L.tWg wg w → Goes P true (ROf L.tWg ⟨.opn true, 0, wg, bd + 1, gs, grp, may, zone, chs, q⟩) (DM ⟨.opn true, 0, wg, bd + 1, gs, grp, may, zone, chs, q⟩) (fun g w => g.status = .running ∧ MStop P L.tWg Post (Sc P L.tWg Post N) ⟨.opn true, 0, wg, bd + 1, gs, grp, may, zone, chs, q⟩ g w) mT
      (G (b₀.at (a₀.put ((ops₀[i₀]?).bind (·.dst)) (.tuple #[])) (.inRegion ops₀ rest₀ :: k₀)) cs) w)
    (w : World) (hF : F w ∧ WgLive L.tWg wg w) :
    Goes P true (ROf L.tWg ⟨.opn false, 0, wg, bd, gs, grp, may, zone, chs, q⟩) (DM ⟨.opn false, 0, wg, bd, gs, grp, may, zone, chs, q⟩) (fun g w => g.status = .running ∧ MStop P L.tWg Post (Sc P L.tWg Post (N + 1 + 1 + 1)) ⟨.opn false, 0, wg, bd, gs, grp, may, zone, chs, q⟩ g w) 12
      (G ((base L.add).at ⟨#[.pointer (some ⟨wg, 0, none⟩), .int .i64 1, undef, undef, undef, undef, undef, undef, undef, undef, undef, undef, undef, undef, undef, undef, undef, undef, undef, undef, undef, undef, undef, undef, undef, undef, undef, undef, undef, undef, undef, undef, undef, undef, undef, undef, undef, undef, undef, undef, undef, undef, undef, undef, undef, undef, undef, undef, undef, undef, undef, undef, undef, undef, undef, undef, undef, undef, undef, undef, undef, undef, undef, undef, undef, undef, undef, undef, undef, undef, undef, undef, undef, undef, undef, undef, undef, undef, undef, undef, undef, undef, undef, undef, undef, undef, undef, undef, undef, undef, undef, undef, undef, undef, undef, undef, undef, undef, undef, undef, undef, undef, undef, undef, undef, undef, undef, undef, undef, undef, undef, undef, undef, undef, undef, undef, undef], []⟩ [.code (body_add L)]) (b₀.at a₀ (.inRegion ops₀ (i₀ :: rest₀) :: k₀) :: cs)) w := by
  lib_facts
  have fm : ∀ {w w₁ : World}, F w ∧ WgLive L.tWg wg w → ROf L.tWg ⟨.opn false, 0, wg, bd, gs, grp, may, zone, chs, q⟩ w w₁ → F w₁ ∧ WgLive L.tWg wg w₁ := fun h r => fm_of hF2 (by simp) rfl rfl h r
  refine goesD dm_of_dc0 (n := 12) ?_
  simp only [body_add, addFn, Option.getD_some]
  u_c stepG_seq fm hF
  u_cond true fm hF
  u_c stepG_seq fm hF
  u_c stepG_seq fm hF
  u_reg fm hF
  u_op fm hF
  u_op fm hF
  u_c stepG_region_end fm hF
  u_cond false fm hF
  u_c stepG_skip fm hF
  u_c stepG_seq fm hF
  u_reg fm hF
  refine Goes.stop (fun w₁ h₁ => ?_)
  replace hF := fm hF h₁
  clear h₁ fm
  refine ⟨rfl, .dis _ rfl rfl (stepG_mark0 .disable (by simp) rfl rfl (by k_ne) rfl H.f_disable (x_disable_n L) (x_disable_b L) (x_disable_x L) (x_disable_f L)) ?_⟩
  have fm : ∀ {w w₁ : World}, F w ∧ WgLive L.tWg wg w → ROf L.tWg ⟨.opn false, 1, wg, bd, gs, grp, may, zone, chs, q⟩ w w₁ → F w₁ ∧ WgLive L.tWg wg w₁ := fun h r => fm_of hF2 (by simp) rfl rfl h r
  refine sc_of (n := 40) ?_
  walk_nrm
  u_c stepG_region_end fm hF
  u_reg fm hF
  u_defer fm hF
  u_c stepG_region_end fm hF
  u_c stepG_seq fm hF
  u_reg fm hF
  u_op fm hF
  u_c stepG_region_end fm hF
  u_c stepG_seq fm hF
  u_c stepG_seq fm hF
  u_reg fm hF
  u_bub fm hF
  u_c stepG_region_end fm hF
  u_cond false fm hF
  u_c stepG_skip fm hF
  u_c stepG_seq fm hF
  u_reg fm hF
  u_op fm hF
  u_op fm hF
  u_op fm hF
  u_op fm hF
  u_op fm hF
  u_op fm hF
  u_call H.f_uAdd (nm_uAdd L) uAddFn fm hF
  u_c stepG_seq fm hF
  u_reg fm hF
  u_op fm hF
  u_c stepG_region_end fm hF
  u_c stepG_seq fm hF
  u_reg fm hF
  u_op fm hF
  u_op fm hF
  u_op fm hF
  u_op fm hF
  refine Goes.stop (fun w₂ h₂ => ?_)
  replace hF := fm hF h₂
  clear h₂ fm
  refine ⟨rfl, .add rfl rfl hbd fun v hv hw => ?_⟩
  have fm : ∀ {w w₁ : World}, F w ∧ WgLive L.tWg wg w → ROf L.tWg ⟨.opn true, 1, wg, bd + 1, gs, grp, may, zone, chs, q⟩ w w₁ → F w₁ ∧ WgLive L.tWg wg w₁ := fun h r => fm_of hF2 (by simp) rfl rfl h r
  rcases Nat.eq_zero_or_pos v with rfl | hvp
  · -- THE COUNT IS NOW 1
    replace hw : WgAt L.tWg wg w₂ 0 0 := by simpa using hw
    have z : (((0 : Nat) : Int) + 1) * KK = KK := by simp
    rw [z]
    have e0 : IntKind.u64.wrap (0 + 4294967296) = KK := by decide
    refine ⟨_, (stepG_add_atomic rfl rfl (by k_ne) rfl H.f_addU64 (x_addU64_n L) (x_addU64_b L) (x_addU64_x L) .u64 (x_addU64_f L) rfl rfl hw.cellSt (hw.thaw 0)).trans (by rw [e0]; rfl), ?_⟩
    replace hF : F (w₂.setCell (stA wg) (.int .u64 KK)) ∧ WgLive L.tWg wg (w₂.setCell (stA wg) (.int .u64 KK)) := ⟨hF2 _ _ (rm_set (mr_wg hmay) rfl _ fun _ => ⟨_, _, hw.setSt _⟩) hF.1, ⟨_, _, hw.setSt _⟩⟩
    clear hw
    refine sc_join (n := 70) (m := 60) ?_
    simp only [KK] at hF ⊢
    walk_nrm
    u_op fm hF
    u_c stepG_region_end fm hF
    u_c stepG_ret' fm hF
    u_leave1 H.f_uAdd fm hF
    u_op fm hF
    u_c stepG_region_end fm hF
    u_c stepG_seq fm hF
    u_c stepG_seq fm hF
    u_reg fm hF
    u_op fm hF
    u_op fm hF
    u_op fm hF
    u_op fm hF
    u_skip fm hF
    u_skip fm hF
    u_op fm hF
    u_c stepG_region_end fm hF
    u_cnd false fm hF
    u_c stepG_skip fm hF
    u_c stepG_seq fm hF
    u_reg fm hF
    u_op fm hF
    u_op fm hF
    u_op fm hF
    u_op fm hF
    u_c stepG_region_end fm hF
    u_c stepG_seq fm hF
    u_reg fm hF
    u_op fm hF
    u_op fm hF
    u_op fm hF
    u_op fm hF
    u_c stepG_region_end fm hF
    u_c stepG_seq fm hF
    u_c stepG_seq fm hF
    u_reg fm hF
    u_op fm hF
    u_op fm hF
    u_op fm hF
    u_op fm hF
    u_op fm hF
    u_op fm hF
    u_op fm hF
    u_op fm hF
    u_op fm hF
    u_op fm hF
    u_c stepG_region_end fm hF
    u_cond true fm hF
    u_reg fm hF
    u_op fm hF
    u_op fm hF
    u_op fm hF
    u_conv H.underlying_tPU32 H.room_tU32 (WgLive.cell1 hF.2).choose_spec fm hF
    -- 'race.Read(unsafe.Pointer(&wg.sema))'
    refine Goes.stop (fun w₃ h₃ => ?_)
    replace hF := fm hF h₃
    clear h₃
    refine Goes.step rfl (fun w₄ h₄ => ?_)
    replace hF := fm hF h₄
    clear h₄
    rw [stepG_markAt .read (by simp) rfl rfl (by k_ne) rfl H.f_raceRead (x_raceRead_n L) (x_raceRead_b L) (x_raceRead_x L) (x_raceRead_f L) (ad := ⟨wg, 1, none⟩) (by simp [Act.eval])]
    simp only [goes_go]
    refine ⟨dm_said (.inl rfl) hgrp (live_lt hF.2), ?_⟩
    walk_nrm
    refine goesD (D := DC0) dm_of_dc0 ?_
    u_c stepG_region_end fm hF
    u_c stepG_seq fm hF
    u_c stepG_seq fm hF
    u_reg fm hF
    u_op fm hF
    u_op fm hF
    u_c stepG_region_end fm hF
    u_cnd false fm hF
    u_c stepG_skip fm hF
    u_c stepG_seq fm hF
    u_c stepG_seq fm hF
    u_reg fm hF
    u_op fm hF
    u_op fm hF
    u_op fm hF
    u_skip fm hF
    u_skip fm hF
    u_op fm hF
    u_op fm hF
    u_skip fm hF
    u_skip fm hF
    u_skip fm hF
    u_skip fm hF
    u_op fm hF
    u_c stepG_region_end fm hF
    u_cnd false fm hF
    u_c stepG_skip fm hF
    u_c stepG_seq fm hF
    u_c stepG_seq fm hF
    u_reg fm hF
    u_op fm hF
    u_op fm hF
    u_op fm hF
    u_skip fm hF
    u_skip fm hF
    u_op fm hF
    u_c stepG_region_end fm hF
    u_cnd true fm hF
    u_c stepG_ret' fm hF
    refine Goes.stop (fun w₃ h₃ => ?_)
    replace hF := fm hF h₃
    clear h₃ fm
    refine ⟨rfl, .en _ (.inl rfl) rfl (stepG_unwind_entry (v := .tuple #[]) (evs := #[mk .enable]) rfl H.f_enable (x_enable_n L) (x_enable_b L) (x_enable_x L) (x_enable_f L) (by simp [Extern.Race.none_]) (by simp [mk]) (by simp [mk])) ?_⟩
    have fm : ∀ {w w₁ : World}, F w ∧ WgLive L.tWg wg w → ROf L.tWg ⟨.opn true, 0, wg, bd + 1, gs, grp, may, zone, chs, q⟩ w w₁ → F w₁ ∧ WgLive L.tWg wg w₁ := fun h r => fm_of hF2 (by simp) rfl rfl h r
    obtain ⟨mT, hT⟩ := hM
    refine ⟨1 + mT, goes_join (n := 1) (m := mT) dm_nil (ROf.refl _ _) ?_⟩
    u_leave0 H.f_add fm hF
    exact Goes.stop fun w₅ h₅ => hT _ (fm hF h₅).1 (fm hF h₅).2
  · -- IT IS MORE
    obtain ⟨V, hV⟩ : ∃ V : Int, V = (v : Int) + 1 := ⟨_, rfl⟩
    obtain ⟨S, hS⟩ : ∃ S : Int, S = V * KK := ⟨_, rfl⟩
    have eS : IntKind.u64.wrap ((v : Int) * KK + 4294967296) = S := by rw [IntKind.wrap_u64, hS, hV]; simp only [KK]; omega
    rw [← hV, ← hS]
    have a1 : S / 4294967296 = V := by rw [hS]; simp only [KK]; omega
    have b1 : bits .and .u64 S 2147483648 = 0 := by rw [hS, hV]; have := st_flag (v + 1) 0 (by omega) (by omega); simpa [KK] using this
    have b2 : bits .and .u64 S 2147483647 = 0 := by rw [hS, hV]; have := st_waiters (v + 1) 0 (by omega) (by omega); simpa [KK] using this
    have c1 : IntKind.i32.wrap V = V := by rw [IntKind.wrap_i32]; omega
    have hV1 : 1 < V := by omega
    have hV2 : V < 2147483648 := by omega
    have q1 : (V == 1) = false := by simp; omega
    have q2 : decide (V = 1) = false := decide_eq_false (by omega)
    have q3 : decide (V < 0) = false := decide_eq_false (by omega)
    have q4 : decide (0 < V) = true := decide_eq_true (by omega)
    have q5 : (V == 0) = false := by simp; omega
    have q6 : decide (V = 0) = false := decide_eq_false (by omega)
    refine ⟨_, (stepG_add_atomic rfl rfl (by k_ne) rfl H.f_addU64 (x_addU64_n L) (x_addU64_b L) (x_addU64_x L) .u64 (x_addU64_f L) rfl rfl hw.cellSt (hw.thaw 0)).trans (by rw [eS]; rfl), ?_⟩
    replace hF : F (w₂.setCell (stA wg) (.int .u64 S)) ∧ WgLive L.tWg wg (w₂.setCell (stA wg) (.int .u64 S)) := ⟨hF2 _ _ (rm_set (mr_wg hmay) rfl _ fun _ => ⟨_, _, hw.setSt _⟩) hF.1, ⟨_, _, hw.setSt _⟩⟩
    clear hw hS hV eS
    refine sc_of (n := 110) ?_
    walk_nrm
    u_op fm hF
    u_c stepG_region_end fm hF
    u_c stepG_ret' fm hF
    u_leave1 H.f_uAdd fm hF
    u_op fm hF
    u_c stepG_region_end fm hF
    u_c stepG_seq fm hF
    u_c stepG_seq fm hF
    u_reg fm hF
    u_op fm hF
    u_op fm hF
    u_op fm hF
    u_op fm hF
    u_skip fm hF
    u_skip fm hF
    u_op fm hF
    u_c stepG_region_end fm hF
    u_cnd false fm hF
    u_c stepG_skip fm hF
    u_c stepG_seq fm hF
    u_reg fm hF
    u_op fm hF
    u_op fm hF
    u_op fm hF
    u_op fm hF
    u_c stepG_region_end fm hF
    u_c stepG_seq fm hF
    u_reg fm hF
    u_op fm hF
    u_op fm hF
    u_op fm hF
    u_op fm hF
    u_c stepG_region_end fm hF
    u_c stepG_seq fm hF
    u_c stepG_seq fm hF
    u_reg fm hF
    u_op fm hF
    u_op fm hF
    u_op fm hF
    u_op fm hF
    u_op fm hF
    u_op fm hF
    u_op fm hF
    u_op fm hF
    u_op fm hF
    u_op fm hF
    u_c stepG_region_end fm hF
    u_cnd false fm hF
    u_c stepG_skip fm hF
    u_c stepG_seq fm hF
    u_c stepG_seq fm hF
    u_reg fm hF
    u_op fm hF
    u_op fm hF
    u_c stepG_region_end fm hF
    u_cnd false fm hF
    u_c stepG_skip fm hF
    u_c stepG_seq fm hF
    u_c stepG_seq fm hF
    u_reg fm hF
    u_op fm hF
    u_op fm hF
    u_op fm hF
    u_skip fm hF
    u_skip fm hF
    u_op fm hF
    u_op fm hF
    u_skip fm hF
    u_skip fm hF
    u_skip fm hF
    u_skip fm hF
    u_op fm hF
    u_c stepG_region_end fm hF
    u_cnd false fm hF
    u_c stepG_skip fm hF
    u_c stepG_seq fm hF
    u_c stepG_seq fm hF
    u_reg fm hF
    u_op fm hF
    u_op fm hF
    u_op fm hF
    u_skip fm hF
    u_skip fm hF
    u_op fm hF
    u_c stepG_region_end fm hF
    u_cnd true fm hF
    u_c stepG_ret' fm hF
    refine Goes.stop (fun w₃ h₃ => ?_)
    replace hF := fm hF h₃
    clear h₃ fm
    refine ⟨rfl, .en _ (.inl rfl) rfl (stepG_unwind_entry (v := .tuple #[]) (evs := #[mk .enable]) rfl H.f_enable (x_enable_n L) (x_enable_b L) (x_enable_x L) (x_enable_f L) (by simp [Extern.Race.none_]) (by simp [mk]) (by simp [mk])) ?_⟩
    have fm : ∀ {w w₁ : World}, F w ∧ WgLive L.tWg wg w → ROf L.tWg ⟨.opn true, 0, wg, bd + 1, gs, grp, may, zone, chs, q⟩ w w₁ → F w₁ ∧ WgLive L.tWg wg w₁ := fun h r => fm_of hF2 (by simp) rfl rfl h r
    obtain ⟨mT, hT⟩ := hM
    refine ⟨1 + mT, goes_join (n := 1) (m := mT) dm_nil (ROf.refl _ _) ?_⟩
    u_leave0 H.f_add fm hF
    exact Goes.stop fun w₅ h₅ => hT _ (fm hF h₅).1 (fm hF h₅).2
end

end Go.Proofs.YtiodikflmijhkaaGreatDoor.Farm
end
