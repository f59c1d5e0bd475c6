/- Joined texts: V4 V5 V7 V8. -/
import Derived.Test.YtiodikflmijhkaaGreatDoorJ36
import Derived.Test.YtiodikflmijhkaaGreatDoorJ21
import Derived.Laws.Sem
section
set_option linter.unusedSectionVars false
set_option linter.unusedVariables false
set_option linter.unusedSimpArgs false
namespace Go.Proofs.YtiodikflmijhkaaGreatDoor.Vow
open Go Go.Conc

structure St where
  fr : Frame
  up : List Frame
  w : World

section
variable {S : Scope} {P : Program} {Q : Frame → World → Prop}

structure Sim (S : Scope) (P : Program) (s s' : St) (d m : Nat) (es : Array Event) : Prop where
  ok : OkSt S P s'.fr s'.up
  good : Good S (tp s.w s.w.tape d) s'.w es m
  go : ∀ cs T d', Agr (tp s.w s.w.tape d) m T d' → stepG P true (gS cs s.fr s.up) (tp s.w T d') = .go (gS cs s'.fr s'.up) (tp s'.w T (d' + m)) es
structure Bad (S : Scope) (P : Program) (Q : Frame → World → Prop) (s : St) : Prop where
  ok : OkSt S P s.fr s.up
  heap : HeapOk S s.w
  bad : ¬ Tree S P Q s.fr s.up s.w
def Dead (P : Program) (s : St) (d m : Nat) : Prop := ∀ cs T d', Agr (tp s.w s.w.tape d) m T d' → Ended (stepG P true (gS cs s.fr s.up) (tp s.w T d'))
def Rel (S : Scope) (P : Program) (Q : Frame → World → Prop) (s : St) (x : St × Nat × Nat) : Prop :=
  (Bad S P Q x.1 ∧ ∃ es, Sim S P s x.1 x.2.1 x.2.2 es) ∨ (x.1 = s ∧ Dead P s x.2.1 x.2.2)

theorem Sim.self {s s' : St} {d m : Nat} {es : Array Event} (h : Sim S P s s' d m es) (cs : List Frame) : stepG P true (gS cs s.fr s.up) (tp s.w s.w.tape d) = .go (gS cs s'.fr s'.up) s'.w es := by
  have := h.go cs s.w.tape d fun i hi => rfl
  have e : tp s'.w s.w.tape (d + m) = s'.w := by
    have h1 : s.w.tape = s'.w.tape := h.good.kept.tape.symm
    have h2 : d + m = s'.w.drawn := h.good.kept.drawn.symm
    rw [h1, h2]; rfl
  rwa [e] at this

theorem bad_next (hS : ScopeOk S P) {s : St} (h : Bad S P Q s) (hn : ¬ Stopped s.fr s.up) : ∃ x, Rel S P Q s x := by
  apply Classical.byContradiction
  intro hno
  apply h.bad
  have key : ∀ d, ∃ x : St × Array Event × Nat, Sim S P s x.1 d x.2.2 x.2.1 ∧ Tree S P Q x.1.fr x.1.up x.1.w := by
    intro d
    rcases step_st (w := tp s.w s.w.tape d) hS h.ok ⟨h.heap.low, h.heap.obj⟩ hn with ⟨fr', up', w', es, m, h1, h2, h3⟩ | ⟨m, h1⟩
    · have hs : Sim S P s ⟨fr', up', w'⟩ d m es := ⟨h1, h2, h3⟩
      by_cases ht : Tree S P Q fr' up' w'
      · exact ⟨(⟨fr', up', w'⟩, es, m), hs, ht⟩
      · exact absurd ⟨(⟨fr', up', w'⟩, d, m), .inl ⟨⟨h1, h2.heap, ht⟩, es, hs⟩⟩ hno
    · exact absurd ⟨(s, d, m), .inr ⟨rfl, h1⟩⟩ hno
  have ch := fun d => Classical.choose_spec (key d)
  exact .step s.fr s.up s.w (fun d => (Classical.choose (key d)).1.fr) (fun d => (Classical.choose (key d)).1.up) (fun d => (Classical.choose (key d)).1.w) (fun d => (Classical.choose (key d)).2.1) (fun d => (Classical.choose (key d)).2.2)
    (fun d cs => (ch d).1.self cs) (fun d => (ch d).1.good) fun d => (ch d).2

open Classical in
noncomputable def nxt (S : Scope) (P : Program) (Q : Frame → World → Prop) (s : St) : St × Nat × Nat := if h : ∃ x, Rel S P Q s x then Classical.choose h else (s, 0, 0)
noncomputable def sq (S : Scope) (P : Program) (Q : Frame → World → Prop) (s : St) : Nat → St
  | 0 => s
  | n + 1 => (nxt S P Q (sq S P Q s n)).1
noncomputable def oq (S : Scope) (P : Program) (Q : Frame → World → Prop) (s : St) : Nat → Nat
  | 0 => 0
  | n + 1 => oq S P Q s n + (nxt S P Q (sq S P Q s n)).2.2
noncomputable def tq (S : Scope) (P : Program) (Q : Frame → World → Prop) (s : St) (x : Nat) : Question → Nat :=
  let n := Classical.epsilon fun n => oq S P Q s n ≤ x ∧ x < oq S P Q s (n + 1)
  s.w.tape ((nxt S P Q (sq S P Q s n)).2.1 + (x - oq S P Q s n))

theorem oq_mono (s : St) : ∀ {a b : Nat}, a ≤ b → oq S P Q s a ≤ oq S P Q s b := by
  intro a b h
  induction h with
  | refl => exact Nat.le_refl _
  | step _ ih => exact Nat.le_trans ih (Nat.le_add_right _ _)
theorem tq_at (s : St) (n i : Nat) (hi : i < (nxt S P Q (sq S P Q s n)).2.2) : tq S P Q s (oq S P Q s n + i) = s.w.tape ((nxt S P Q (sq S P Q s n)).2.1 + i) := by
  have h0 : oq S P Q s n ≤ oq S P Q s n + i ∧ oq S P Q s n + i < oq S P Q s (n + 1) := ⟨Nat.le_add_right _ _, Nat.add_lt_add_left hi _⟩
  have h1 := Classical.epsilon_spec (p := fun k => oq S P Q s k ≤ oq S P Q s n + i ∧ oq S P Q s n + i < oq S P Q s (k + 1)) ⟨n, h0⟩
  obtain ⟨k, hk⟩ : ∃ k, k = Classical.epsilon fun k => oq S P Q s k ≤ oq S P Q s n + i ∧ oq S P Q s n + i < oq S P Q s (k + 1) := ⟨_, rfl⟩
  rw [← hk] at h1
  have e : k = n := by
    rcases Nat.lt_trichotomy k n with h | h | h
    · have := oq_mono (S := S) (P := P) (Q := Q) s (show k + 1 ≤ n from h); omega
    · exact h
    · have := oq_mono (S := S) (P := P) (Q := Q) s (show n + 1 ≤ k from h); omega
  unfold tq
  simp only
  rw [← hk, e, Nat.add_sub_cancel_left]

theorem nxt_spec {s : St} (h : ∃ x, Rel S P Q s x) : Rel S P Q s (nxt S P Q s) := by
  unfold nxt
  rw [dif_pos h]
  exact Classical.choose_spec h
theorem nxt_tape (s : St) : (nxt S P Q s).1.w.tape = s.w.tape := by
  by_cases h : ∃ x, Rel S P Q s x
  · rcases nxt_spec h with ⟨_, es, hs⟩ | ⟨h1, _⟩
    · exact hs.good.kept.tape
    · rw [h1]
  · unfold nxt; rw [dif_neg h]
theorem sq_tape (s : St) : ∀ n, (sq S P Q s n).w.tape = s.w.tape
  | 0 => rfl
  | n + 1 => (nxt_tape _).trans (sq_tape s n)

theorem solo_inj {a b : Goroutine} {w w' : World} (h : solo a w = solo b w') : a = b ∧ w = w' := by
  simp only [solo, Machine.mk.injEq, Array.mk.injEq, List.cons.injEq, and_true] at h
  exact ⟨h.2, h.1⟩

/-- Behind the bottom frame's leaving the run alone ends at once. -/
theorem stopped_leave {fr : Frame} (hst : fr.mode ≠ .run) (hd : fr.defers = []) (hr : fr.roundOf = none) (w : World) :
    (∃ o w', step P (solo (G fr [pc]) w) = .ended o w') ∨ ∃ g w', step P (solo (G fr [pc]) w) = .next (solo g w') ∧ g.callers = [] ∧ ∃ o w'', step P (solo g w') = .ended o w'' := by
  obtain ⟨fn, tmps, todo, defers, mode, kind, round⟩ := fr
  simp only at hst hd hr
  subst hd hr
  have E : ∀ {a : Goroutine} {w : World}, a = G a.frame a.callers → Ended (stepG P true a w) → ∃ o w', step P (solo a w) = .ended o w' := fun ha ⟨o, w', es, h⟩ => ⟨o, w', step_solo_ended ha h⟩
  cases mode with
  | run =>
    exact absurd rfl hst
  | returning =>
    have key : ∀ (v : Value) (w' : World) (es : Array Event), stepG P true (G (⟨fn, tmps, todo, [], .returning, kind, none⟩ : Frame) [pc]) w = GStep.after es (doReturn P true (⟨fn, tmps, todo, [], .returning, kind, none⟩ : Frame) [pc] none v w') →
        (∃ o w', step P (solo (G (⟨fn, tmps, todo, [], .returning, kind, none⟩ : Frame) [pc]) w) = .ended o w') ∨ ∃ g w', step P (solo (G (⟨fn, tmps, todo, [], .returning, kind, none⟩ : Frame) [pc]) w) = .next (solo g w') ∧ g.callers = [] ∧ ∃ o w'', step P (solo g w') = .ended o w'' := by
      intro v w' es h
      refine .inr ⟨G pc [], w', ?_, rfl, E rfl ⟨_, _, _, rfl⟩⟩
      have : stepG P true (G (⟨fn, tmps, todo, [], .returning, kind, none⟩ : Frame) [pc]) w = .go (G pc []) w' (es ++ #[]) := by
        rw [h]
        cases kind <;> rfl
      exact step_solo_go rfl this
    cases hf : P.funcs[fn]? with
    | none => exact key (tmps.getD 0 undef) w #[] (by simp [G, stepG, unwind, hf, GStep.after, doReturn, pc]; cases kind <;> rfl)
    | some f =>
      cases hr : (results f tmps).runT P w #[] with
      | mk res es =>
        cases res with
        | ok v w' => exact key v w' (seen P fn es) (by simp only [G, stepG, unwind, hf, hr])
        | halt hh w' =>
          refine .inl (E rfl ?_)
          simp only [G, stepG, unwind, hf, hr]
          cases hh <;> exact ⟨_, _, _, rfl⟩
  | panicking chain =>
    by_cases hc : (⟨fn, tmps, todo, [], .panicking chain, kind, none⟩ : Frame).catches P = true
    · refine .inl (E rfl ?_)
      simp only [G, stepG, unwind] at hc ⊢
      simp only [hc, if_true]
      exact ⟨_, _, _, rfl⟩
    · refine .inr ⟨G (pc.raise chain) [], w, ?_, rfl, E rfl ⟨_, _, _, rfl⟩⟩
      refine step_solo_go (es := #[]) rfl ?_
      simp only [G, stepG, unwind] at hc ⊢
      simp only [hc]
      rfl

/-- What a call alone comes to, on every tape. -/
def LoneC (P : Program) (Q : Frame → World → Prop) (fr : Frame) (w : World) : Prop :=
  ∀ T d, ∃ fr' w', Steps P (solo (G fr [pc]) (tp w T d)) (solo (G fr' [pc]) w') ∧ Q fr' w'

set_option maxHeartbeats 800000 in
/-- ████ FROM A CALL ALONE TO THE TREE: the callee's own frame, nothing beneath it but poison. ████ -/
theorem tree_of_call (hS : ScopeOk S P) {fr : Frame} {w : World} (hf : FrOk S P fr) (hrd : fr.roundOf = none) (hw : HeapOk S w) (hL : LoneC P Q fr w) : Tree S P Q fr [] w := by
  apply Classical.byContradiction
  intro hT
  obtain ⟨s, hs⟩ : ∃ s : St, s = ⟨fr, [], w⟩ := ⟨_, rfl⟩
  have hb : Bad S P Q s := hs ▸ ⟨⟨hf, hrd⟩, hw, hT⟩
  obtain ⟨fr', w', ⟨N, hN⟩, hq⟩ := hL (tq S P Q s) 0
  have claim : ∀ n, n ≤ N → Bad S P Q (sq S P Q s n) ∧ runN P n (solo (G fr [pc]) (tp w (tq S P Q s) 0)) = .next (solo (gS [pc] (sq S P Q s n).fr (sq S P Q s n).up) (tp (sq S P Q s n).w (tq S P Q s) (oq S P Q s n))) := by
    intro n
    induction n with
    | zero => exact fun _ => ⟨hb, by rw [hs]; rfl⟩
    | succ n ih =>
      intro hn
      obtain ⟨hbad, hrun⟩ := ih (by omega)
      obtain ⟨k, hk⟩ : ∃ k, N = n + (k + 1) := ⟨N - n - 1, by omega⟩
      have hrest : runN P (k + 1) (solo (gS [pc] (sq S P Q s n).fr (sq S P Q s n).up) (tp (sq S P Q s n).w (tq S P Q s) (oq S P Q s n))) = .next (solo (G fr' [pc]) w') := by
        rw [hk, runN_add, hrun] at hN
        exact hN
      by_cases hst : Stopped (sq S P Q s n).fr (sq S P Q s n).up
      · exfalso
        obtain ⟨hup, hmode, hdef⟩ := hst
        have hok := hbad.ok
        rw [hup] at hrest hok
        rcases stopped_leave (P := P) hmode hdef hok.2 (tp (sq S P Q s n).w (tq S P Q s) (oq S P Q s n)) with ⟨o, w1, h1⟩ | ⟨g, w1, h1, h2, o, w2, h3⟩
        · exact runN_ended h1 k _ hrest
        · cases k with
          | zero =>
            have : runN P 1 (solo (gS [pc] (sq S P Q s n).fr []) (tp (sq S P Q s n).w (tq S P Q s) (oq S P Q s n))) = .next (solo g w1) := by simp only [runN, gS, List.nil_append, h1]
            rw [this] at hrest
            simp only [Stepped.next.injEq] at hrest
            have := (solo_inj hrest).1
            rw [this] at h2
            cases h2
          | succ k =>
            have : runN P (k + 1 + 1) (solo (gS [pc] (sq S P Q s n).fr []) (tp (sq S P Q s n).w (tq S P Q s) (oq S P Q s n))) = runN P (k + 1) (solo g w1) := by
              rw [runN]; simp only [gS, List.nil_append, h1]
            rw [this] at hrest
            exact runN_ended h3 k _ hrest
      · have hr := nxt_spec (bad_next hS hbad hst)
        have hagr : Agr (tp (sq S P Q s n).w (sq S P Q s n).w.tape (nxt S P Q (sq S P Q s n)).2.1) (nxt S P Q (sq S P Q s n)).2.2 (tq S P Q s) (oq S P Q s n) := fun i hi => by
          rw [tq_at s n i hi]
          show _ = (sq S P Q s n).w.tape _
          rw [sq_tape]
          rfl
        rcases hr with ⟨hb', es, hsim⟩ | ⟨_, hdead⟩
        · refine ⟨hb', ?_⟩
          have hgo := hsim.go [pc] _ _ hagr
          have h1 := step_solo_go rfl hgo
          rw [runN_add, hrun]
          simp only [runN, h1]
          rfl
        · exfalso
          obtain ⟨o, w1, es, he⟩ := hdead [pc] _ _ hagr
          exact runN_ended (step_solo_ended rfl he) k _ hrest
  obtain ⟨hbad, hrun⟩ := claim N (Nat.le_refl _)
  rw [hN] at hrun
  simp only [Stepped.next.injEq] at hrun
  obtain ⟨h1, h2⟩ := solo_inj hrun
  have hup : (sq S P Q s N).up = [] := by
    have h3 : [pc] = (sq S P Q s N).up ++ [pc] := congrArg Goroutine.callers h1
    have := congrArg List.length h3
    simp at this
    exact this
  have hfr : fr' = (sq S P Q s N).fr := congrArg Goroutine.frame h1
  apply hbad.bad
  have hok := hbad.ok
  rw [hup] at hok ⊢
  exact .stop _ _ _ _ (by rw [← hfr, ← h2]; exact hq) hbad.heap hok.1
end

end Go.Proofs.YtiodikflmijhkaaGreatDoor.Vow
end

section
set_option linter.unusedSectionVars false
set_option linter.unusedVariables false
namespace Go.Proofs.YtiodikflmijhkaaGreatDoor.Farm
open Go Go.Conc Go.ConcN
open Go.ConcR (KK wgBlock WgAt stA smA rd wr mk Payload Aside2 DC0 Bk g_of_ofEvents)
open Vow
variable [Payload]

section
variable {P : Program} {ty : TypeId} {κ j : Nat} {gs : Array Goroutine} {w w' : World} {sl : Option (Nat × Nat)} {t : Trace} {D : Nat → KD} {So : Nat → Nat → Prop} {qo : Nat → Nat} {st : MSt} {S : Scope} {Q : Frame → World → Prop}

theorem evM_of_evV (hmay : ∀ b, ¬ S.D b → st.may b ∧ ¬ st.grp b) {B : Nat} {e : Event} (h : EvV S B e) : EvM st B e := by
  obtain ⟨loc, wr, sy⟩ := e
  rcases h with ⟨a, h1, h2, h3⟩ | ⟨r, h1, h2, h3, h4⟩ | h1
  · simp only at h1
    subst h1
    refine ⟨fun x hx => ?_, by simp, by simp, by simp, h3⟩
    simp only [MemAct.ofEvent, MemAct.touch?, Option.some.injEq] at hx
    subst hx
    exact .inr ⟨(hmay _ h2).2, fun _ => .inl ⟨a, rfl, (hmay _ h2).1⟩⟩
  · simp only at h1 h4
    subst h1 h4
    have : MemAct.ofEvent ⟨.obj r, wr, false⟩ = .access ⟨.obj r, wr, false⟩ := by cases wr <;> rfl
    refine ⟨fun x hx => ?_, by simp, by simp, by simp, by rw [this]; exact h3⟩
    simp only [this, MemAct.touch?, Option.some.injEq] at hx
    subst hx
    exact .inr ⟨(hmay _ h2).2, fun _ => .inr ⟨r, rfl, (hmay _ h2).1⟩⟩
  · simp only at h1
    subst h1
    exact ⟨fun x hx => by simp [MemAct.ofEvent, MemAct.touch?] at hx, by simp, by simp, by simp, trivial⟩

theorem crowd_awake {g : Goroutine} (h0 : gs[0]? = some g) (hrun : g.status = .running) (htag : st.tag = .law) (hc : Com P ty κ j gs w t D So qo st) : ∀ x ∈ gs, awake x := by
  intro x hx
  obtain ⟨i, hi⟩ := Array.mem_iff_getElem?.1 hx
  apply awake_of
  rcases Nat.eq_zero_or_pos i with rfl | hp
  · rw [h0] at hi; cases hi; exact .inl hrun
  · have hlt := (Array.getElem?_eq_some_iff.1 hi).1
    have hj := hc.lawj htag
    rw [hc.size] at hlt
    obtain ⟨y, hy, hqq⟩ := hc.old i hp (by omega)
    rw [hi] at hy; cases hy
    exact hqq.status.elim .inl fun x => .inr (.inr x)

/-- One step of the starter's, leavers slipping ahead of it. -/
theorem done_step {Fin : Value → World → Prop} (htag : st.tag = .law) {g : Goroutine} (hrun : g.status = .running) {f : Nat → Goroutine} {v : Nat → World} {es : Nat → Array Event}
    (hgo : ∀ d, stepG P true g (w.at d) = .go (f d) (v d) (es d)) (hD : ∀ d, DM st (w.at d) (v d) (es d)) (hK : ∀ d, Done P ty Fin st (f d) (v d)) : Done P ty Fin st g w := by
  intro d gs sl κ j D So qo t h0 hc
  have key : ∀ n (gs : Array Goroutine) (d : Nat) (sl : Option (Nat × Nat)) (qo : Nat → Nat) (t : Trace), sumTo κ qo ≤ n → gs[0]? = some g → Com P ty κ j gs (w.at d) t D So qo st → Ends P Fin gs (w.at d) sl t := by
    intro n
    induction n with
    | zero => ?_
    | succ n ih => ?_
    all_goals
      intro gs d sl qo t hq h0 hc
      obtain ⟨i, x, d', sl', hi, hx, hstep⟩ := crowd_pick (P := P) (w := w.at d) (sl := sl) (crowd_awake h0 hrun htag hc) ⟨0, g, h0, hrun⟩
      have hc' := hc.at d'
      have hj := hc.lawj htag
      rcases Nat.eq_zero_or_pos i with rfl | hp
      · rw [h0] at hi; cases hi
        have hr := runT_crowd_go (P := P) (sl := sl') (w := w.at d') (i := 0) h0 (by simpa using hgo d')
        have hDd := hD d'
        have hc2 := hc'.main (st' := st) (w' := v d') (t' := t ++ MemOp.ofEvents 0 g.frame.fn g.frame.place (es d')) (gs' := (gs.map (Conc.woken P g (f d') (v d'))).setIfInBounds 0 (f d')) (by simp) (gs_main hc _ _ _) rfl rfl rfl rfl rfl Iff.rfl (fun _ => .inl) hDd.size (fun x hx _ hm _ => hDd.keep x hx hm)
          (fun hl => absurd htag hl) (fun x hx => by omega) (tf_main hc' hDd.size hDd.evs) (fun x h1 hx => Deaf_other t (g := x) (g' := 0) (by omega) _ g_of_ofEvents)
        exact ends_next (by rw [hstep]; exact hr) (hK d' (v d').drawn _ _ κ j D So qo _ (get_map_set_same _ _ _ (by rw [hc.size]; have := hc.k1; omega)) hc2)
      · have hlt := (Array.getElem?_eq_some_iff.1 hi).1
        rw [hc.size] at hlt
        obtain ⟨y, hy, hqq⟩ := hc'.old i hp (by omega)
        rw [hi] at hy; cases hy
        cases hqi : qo i with
        | zero => rw [hqi] at hqq; rw [hqq.1] at hx; cases hx
        | succ k =>
          rw [hqi] at hqq
          rcases hqq with ⟨hf, _⟩ | ⟨_, g', es', hm, hstp, hq'⟩
          · rw [hf] at hx; cases hx
          have hr := runT_crowd_go (P := P) (sl := sl') (w := w.at d') (i := i) hi (by rw [show (i == 0) = false by simp; omega]; exact hstp (w.at d'))
          have h8 : sumTo κ (upd qo i k) + qo i = sumTo κ qo + k := sumTo_upd qo k id (show i < κ by omega)
          have hslip := hc'.slip (k := k) (g' := g') hp (show i < κ by omega) hm hq' (gs' := (gs.map (Conc.woken P x g' (w.at d'))).setIfInBounds i g') (fn := x.frame.fn) (pos := x.frame.place) (by simp) (get_map_set_same _ _ _ (by rw [hc.size]; omega)) (fun z hz e => by
            rw [get_map_set _ _ _ _ (by omega)]
            cases hgz : gs[z]? with
            | none => rfl
            | some v =>
              have hltz := (Array.getElem?_eq_some_iff.1 hgz).1
              rw [hc.size] at hltz
              obtain ⟨u, hu, hqx⟩ := hc.old z hz (by omega)
              rw [hgz] at hu; cases hu
              simp [woken_quitsD hqx])
          have h00 : ((gs.map (Conc.woken P x g' (w.at d'))).setIfInBounds i g')[0]? = some g := by rw [get_map_set _ _ _ _ (by omega), h0]; simp [woken_run hrun]
          first
          | (exfalso; omega)
          | exact ends_next (by rw [hstep]; exact hr) (ih _ d' sl' (upd qo i k) _ (by omega) h00 hslip)
  exact key _ gs d sl qo t (Nat.le_refl _) h0 hc

/-- ████ WHERE THE TREE STOPS THE RUN ENDS WELL: THEN IT DOES FROM ITS ROOT. ████ -/
theorem done_of_tree {Fin : Value → World → Prop} (htag : st.tag = .law) (hmay : ∀ b, ¬ S.D b → st.may b ∧ ¬ st.grp b) {cs : List Frame} {fr : Frame} {up : List Frame} (h : Tree S P Q fr up w)
    (hQ : ∀ fr w' T d, Q fr (tp w' T d) → HeapOk S w' → FrOk S P fr → w'.tape = w.tape → Done P ty Fin st (G fr cs) w') : Done P ty Fin st (gS cs fr up) w := by
  induction h with
  | stop fr w T d h1 h2 h3 => exact hQ fr w T d h1 h2 h3 rfl
  | step fr up w f u v es m h1 h2 h3 ih =>
    refine done_step (f := fun d => gS cs (f d) (u d)) (v := v) (es := es) htag rfl (fun d => h1 d cs) (fun d => ?_) fun d => ih d fun fr' w' T d' a1 a2 a3 a4 => hQ fr' w' T d' a1 a2 a3 (a4.trans (h2 d).kept.tape)
    have hk := (h2 d).kept
    exact ⟨hk.size, fun hl => absurd htag hl, fun b hb hm => hk.keep b (Classical.byContradiction fun hn => hm (hmay b hn).1), fun e he => evM_of_evV hmay ((h2 d).evs e he)⟩
end

end Go.Proofs.YtiodikflmijhkaaGreatDoor.Farm
end

section
set_option linter.unusedSectionVars false
set_option linter.unusedVariables false
namespace Go.Proofs.YtiodikflmijhkaaGreatDoor.Vow
open Go Go.Conc

section
variable {S : Scope} {P : Program}

theorem cl_shift {op : BinOp} {k yk : IntKind} {x y : Int} : Cl S P (Op.shift op k x yk y) (Ok S) := by
  unfold Op.shift
  refine cl_ite (fun _ => cl_error) fun _ => ?_
  dsimp only
  cases op <;> first | exact cl_pure (.int _ _) | exact cl_stuck
theorem cl_intArith {op : BinOp} {k : IntKind} {x y : Int} : Cl S P (Op.intArith op k x y) (Ok S) := by
  unfold Op.intArith
  cases op <;> first | exact cl_pure (.int _ _) | exact cl_stuck
theorem cl_intDiv {op : BinOp} {k : IntKind} {x y : Int} : Cl S P (Op.intDiv op k x y) (Ok S) := by
  unfold Op.intDiv
  refine cl_ite (fun _ => cl_error) fun _ => ?_
  cases op <;> first | exact cl_pure (.int _ _) | exact cl_stuck
theorem cl_intBits {op : BinOp} {k : IntKind} {x y : Int} : Cl S P (Op.intBits op k x y) (Ok S) := by
  unfold Op.intBits
  cases op <;> first | exact cl_pure (.int _ _) | exact cl_stuck
theorem cl_intCmp {op : BinOp} {x y : Int} : Cl S P (Op.intCmp op x y) (Ok S) := by
  unfold Op.intCmp
  cases op <;> first | exact cl_pure (.bool _) | exact cl_stuck
theorem cl_stringOp {op : BinOp} {x y : ByteArray} : Cl S P (Op.stringOp op x y) (Ok S) := by
  unfold Op.stringOp
  cases op <;> first | exact cl_pure (.bool _) | exact cl_stuck | exact cl_ite (fun _ => cl_limit) fun _ => cl_pure (.string _)

theorem cl_unsafeAdd {t : TypeId} {x y : Value} (hx : Ok S x) : Cl S P (Builtin.unsafeAdd_ #[] t #[x, y]) (Ok S) := by
  unfold Builtin.unsafeAdd_
  cases x with
  | pointer ptr =>
    refine (cl_asInt y).bind fun n _ => ?_
    refine cl_ite (fun _ => ?_) fun _ => ?_
    · cases ptr with
      | none => exact cl_unsafe
      | some a => exact (cl_viewAt (ok_pointer.1 hx)).bind fun v hv => by subst hv; exact hx
    · refine cl_ite (fun _ => cl_seq cl_unsafe ?_) fun _ => ?_
      all_goals
        cases ptr with
        | none => exact cl_unsafe
        | some a =>
          refine cl_shape fun s => ?_
          split
          · refine cl_program ?_
            split
            · exact cl_pure (ok_pointer.2 (show ¬ S.D a.block from ok_pointer.1 hx))
            · exact cl_unsafe
          · exact cl_unsafe
  | _ => exact cl_stuck

theorem cl_asNumber {a : Addr} {b : Bool} (h : ¬ S.D a.block) : Cl S P (asNumber a b) (Ok S) := ⟨h, fun r hr => ok_pointer.2 hr⟩
theorem cl_movedNumber {t : TypeId} {x y : Value} (hx : Ok S x) : Cl S P (movedNumber t x y) (Ok S) := by
  unfold movedNumber
  refine (cl_underlying t).bind fun d _ => ?_
  have h1 : Cl S P (Builtin.unsafeAdd_ #[] t #[x, y]) (Ok S) := cl_unsafeAdd hx
  cases x with
  | pointer p =>
    cases p with
    | none => exact cl_ite (fun _ => cl_seq cl_unsafe h1) fun _ => h1
    | some n =>
      have key : Cl S P (behindNumber n >>= fun p => Builtin.unsafeAdd_ #[] t #[.pointer (some p.1), y] >>= fun v => match v with
          | .pointer (some b) => asNumber b p.2
          | v => pure v) (Ok S) := by
        refine (cl_behind (ok_pointer.1 hx)).bind fun p hp => ?_
        refine (cl_unsafeAdd (ok_pointer.2 hp)).bind fun v hv => ?_
        split
        · exact cl_asNumber (ok_pointer.1 hv)
        · exact hv
      exact cl_ite (fun _ => cl_seq cl_unsafe key) fun _ => key
  | _ => exact cl_ite (fun _ => cl_seq cl_unsafe h1) fun _ => h1
theorem cl_movedPointer {t : TypeId} {x y : Value} (hx : Ok S x) : Cl S P (movedPointer t x y) (Ok S) := by
  unfold movedPointer
  split
  · refine (cl_numberAt (ok_pointer.1 hx)).bind fun p hp => ?_
    exact cl_ite (fun _ => cl_seq cl_observed (cl_unsafeAdd hx)) fun _ => cl_unsafeAdd hx
  · exact cl_unsafeAdd hx
theorem cl_twoPlaces {a b : Addr} (ha : ¬ S.D a.block) (hb : ¬ S.D b.block) : Cl S P (Op.twoPlaces a b) (fun _ => True) := by
  unfold Op.twoPlaces
  have key : Cl S P (do pure (← byteOf a, ← byteOf b) : Sem (Nat × Nat)) (fun _ => True) := (cl_byteOf ha).bind fun _ _ => (cl_byteOf hb).bind fun _ _ => trivial
  refine cl_program (cl_ite (fun _ => cl_seq cl_observed key) fun _ => key)
theorem cl_addrSub {k : IntKind} {a b : Addr} (ha : ¬ S.D a.block) (hb : ¬ S.D b.block) : Cl S P (Op.addrSub k a b) (Ok S) := (cl_twoPlaces ha hb).bind fun _ _ => cl_pure (.int _ _)
theorem cl_addrCmp {op : BinOp} {a b : Addr} (ha : ¬ S.D a.block) (hb : ¬ S.D b.block) : Cl S P (Op.addrCmp op a b) (Ok S) := (cl_twoPlaces ha hb).bind fun _ _ => by
  cases op <;> first | exact cl_pure (.bool _) | exact cl_observed
theorem cl_addrMod {k : IntKind} {a : Addr} {n : Int} (ha : ¬ S.D a.block) : Cl S P (Op.addrMod k a n) (Ok S) := by
  unfold Op.addrMod
  refine cl_shape fun s => ?_
  split
  · refine (cl_typeInfo _).bind fun i _ => ?_
    have key : Cl S P (do pure (.int k ((← byteOf a) % n.toNat : Nat)) : Sem Value) (Ok S) := (cl_byteOf ha).bind fun _ _ => cl_pure (.int _ _)
    exact cl_ite (fun _ => cl_seq cl_observed key) fun _ => key
  · exact cl_observed

/-- Types whose values '==' compares as they stand. -/
def Plain (P : Program) (t : TypeId) : Prop := (∃ k, P.underlying t = some (.int k)) ∨ P.underlying t = some .bool ∨ P.underlying t = some .string ∨ ∃ e, P.underlying t = some (.slice e)

theorem cl_equal {t : TypeId} {x y : Value} (ht : Plain P t) (hx : Ok S x) (hy : Ok S y) : Cl S P (Op.equal t x y) (fun _ => True) := by
  show Cl S P (Op.equalIn (9999 + 1) t x y) _
  unfold Op.equalIn
  refine (cl_underlying t).bind fun d hd => ?_
  rcases ht with ⟨k, h⟩ | h | h | ⟨e, h⟩
  · rw [h] at hd; cases hd
    cases x with
    | int k a =>
      cases y with
      | int k' b => exact cl_ite (fun _ => trivial) fun _ => cl_stuck
      | pointer p =>
        cases p with
        | none => exact cl_observed
        | some p =>
          by_cases ha : a = 0
          · subst ha; exact trivial
          · dsimp only
            split <;> first | trivial | exact cl_observed | exact cl_stuck
      | _ => exact cl_stuck
    | pointer p =>
      cases p with
      | none => cases y <;> first | exact cl_observed | exact cl_stuck
      | some p =>
        cases y with
        | pointer q =>
          cases q with
          | none => exact cl_observed
          | some q =>
            refine (cl_behind (ok_pointer.1 hx)).bind fun a ha => (cl_behind (ok_pointer.1 hy)).bind fun b hb => cl_program ?_
            refine cl_ite (fun _ => (cl_byteOf ha).bind fun _ _ => (cl_byteOf hb).bind fun _ _ => trivial) fun _ => ?_
            refine (cl_typeInfo t).bind fun i _ => ?_
            split
            · exact cl_ite (fun _ => trivial) fun _ => cl_observed
            · exact cl_observed
        | int k' b =>
          dsimp only
          split <;> first | trivial | exact cl_observed | exact cl_stuck
        | _ => exact cl_observed
    | _ =>
      cases y with
      | pointer q => cases q <;> first | exact cl_observed | exact cl_stuck
      | _ => exact cl_stuck
  · rw [h] at hd; cases hd
    cases x <;> cases y <;> first | trivial | exact cl_stuck
  · rw [h] at hd; cases hd
    cases x <;> cases y <;> first | trivial | exact cl_stuck
  · rw [h] at hd; cases hd
    cases x with
    | slice a l c => cases a <;> cases y <;> first | trivial | exact cl_stuck | (rename_i a' l' c'; cases a' <;> first | trivial | exact cl_stuck)
    | _ => cases y <;> first | trivial | exact cl_stuck | (rename_i a' l' c'; cases a' <;> first | trivial | exact cl_stuck)

theorem cl_eqGuard {op : BinOp} {t : TypeId} {x y : Operand} {a b : Value} (h : (op = .eql ∨ op = .neq) → Plain P t) : Cl S P (eqGuard op t x y a b) (fun _ => True) := by
  unfold eqGuard
  by_cases ho : op = .eql ∨ op = .neq
  · have ht := h ho
    have hg : Cl S P (Op.eqGuardIn Op.maxDepth t a b) (fun r => r = false) := by
      show Cl S P (Op.eqGuardIn (9999 + 1) t a b) _
      unfold Op.eqGuardIn
      refine (cl_underlying t).bind fun d hd => ?_
      rcases ht with ⟨k, h⟩ | h | h | ⟨e, h⟩ <;> (rw [h] at hd; cases hd; exact cl_pure rfl)
    have hgt : P.eqGuardType P.depth t = false := by
      have : P.depth = (2 * (P.types.size + Made.depth) + 1) + 1 := rfl
      rw [this, Program.eqGuardType]
      rcases ht with ⟨k, h⟩ | h | h | ⟨e, h⟩ <;> rw [h]
    rcases ho with rfl | rfl
    all_goals
      cases a with
      | nilIface =>
        cases b with
        | nilIface => exact cl_ite (fun h => nomatch h) fun _ => cl_ite (fun _ => trivial) fun _ => hg.bind fun r hr => by subst hr; trivial
        | _ => trivial
      | agg xs =>
        cases b with
        | agg ys =>
          refine cl_ite (fun h => nomatch h) fun _ => ?_
          refine cl_program (f := fun p => program >>= fun q => _) (cl_program (f := fun q => _) ?_)
          refine cl_ite (fun _ => trivial) fun hn => ?_
          rw [hgt] at hn
          exact absurd rfl hn
        | _ => trivial
      | _ => trivial
  · cases op <;> first | trivial | exact absurd (.inl rfl) ho | exact absurd (.inr rfl) ho
end

end Go.Proofs.YtiodikflmijhkaaGreatDoor.Vow
end

section
set_option linter.unusedSectionVars false
set_option linter.unusedVariables false
namespace Go.Proofs.YtiodikflmijhkaaGreatDoor.Vow
open Go Go.Conc

section
variable {S : Scope} {P : Program}

theorem cl_binOp {op : BinOp} {t : TypeId} {a b : Value} (ho : (op = .eql ∨ op = .neq) → Plain P t) (ha : Ok S a) (hb : Ok S b) : Cl S P (binOp op t a b) (Ok S) := by
  unfold binOp
  split
  all_goals first
    | exact cl_shift
    | exact cl_stringOp
    | exact cl_observed
    | exact cl_stuck
    | exact cl_movedNumber ha
    | exact cl_movedNumber hb
    | exact (cl_behind (ok_pointer.1 ha)).bind fun x hx => (cl_behind (ok_pointer.1 hb)).bind fun y hy => cl_addrSub hx hy
    | exact (cl_behind (ok_pointer.1 ha)).bind fun x hx => (cl_behind (ok_pointer.1 hb)).bind fun y hy => cl_addrCmp hx hy
    | exact (cl_behind (ok_pointer.1 ha)).bind fun x hx => cl_addrMod hx
    | exact (cl_behind (ok_pointer.1 hb)).bind fun x hx => cl_addrMod hx
    | (cases ha; done)
    | exact (cl_equal (ho (.inl rfl)) ha hb).bind fun r _ => cl_pure (.bool _)
    | exact (cl_equal (ho (.inr rfl)) ha hb).bind fun r _ => cl_pure (.bool _)
    | (refine cl_ite (fun _ => cl_stuck) fun _ => ?_; split <;> first | exact cl_intArith | exact cl_intDiv | exact cl_intBits | exact cl_intCmp)
    | exact (cl_underlying t).bind fun d _ => by split <;> first | exact cl_movedPointer ha | exact cl_movedNumber ha
theorem cl_unary {op : UnOp} {a : Value} (ha : Ok S a) : Cl S P (Op.unary op a) (Ok S) := by
  unfold Op.unary
  split <;> first | exact cl_intArith | exact cl_intBits | exact cl_pure (.bool _) | exact cl_observed | exact cl_stuck | (cases ha; done)

theorem cl_intToInt {k : IntKind} {n : Int} : Cl S P (Conv.intToInt k n) (Ok S) := cl_pure (.int _ _)
theorem cl_convert {s d : TypeId} {x : Value} (hs : ∃ k, P.underlying s = some (.int k)) (hd : ∃ k, P.underlying d = some (.int k)) (hx : Ok S x) : Cl S P (convert s d x) (Ok S) := by
  obtain ⟨k, hs⟩ := hs
  obtain ⟨k', hd⟩ := hd
  unfold convert
  refine (cl_underlying s).bind fun a ha => (cl_underlying d).bind fun b hb => ?_
  rw [hs] at ha; rw [hd] at hb
  cases ha; cases hb
  cases x with
  | int k n => exact cl_intToInt
  | pointer p => cases p <;> first | exact cl_observed | exact cl_noEntry
  | float k n => exact absurd hx (by intro h; cases h)
  | _ => exact cl_noEntry

theorem fill_ok {place : Nat → Option (Nat × Nat)} : ∀ (parts : List (Nat × Value)) (cells cs : Array Value), (∀ v ∈ cells, Ok S v) → (∀ p ∈ parts, Ok S p.2) → Instr.fill place cells parts = some cs → ∀ v ∈ cs, Ok S v
  | [], cells, cs, hc, _, h => by cases h; exact hc
  | (i, v) :: rest, cells, cs, hc, hp, h => by
    unfold Instr.fill at h
    split at h
    · cases h
    · split at h
      · cases h
      · refine fill_ok rest _ cs ?_ (fun p hp' => hp p (List.mem_cons_of_mem _ hp')) h
        have hv := ok_cells (hp (i, v) (List.mem_cons_self ..))
        rename_i off size _ _
        have key : ∀ (l : List (Value × Nat)) (cs : Array Value), (∀ x ∈ cs, Ok S x) → (∀ p ∈ l, Ok S p.1) → ∀ x ∈ l.foldl (fun cs (x : Value × Nat) => cs.setIfInBounds (off + x.2) x.1) cs, Ok S x := by
          intro l
          induction l with
          | nil => exact fun cs h _ => h
          | cons p l ih => exact fun cs h hl => ih _ (TmpsOk.set h (hl p (List.mem_cons_self ..)) _) fun q hq => hl q (List.mem_cons_of_mem _ hq)
        have h2 : ∀ p ∈ v.cells.zipIdx.toList, Ok S p.1 := fun p hp => by
          have h3 : p ∈ v.cells.zipIdx := Array.mem_toList_iff.1 hp
          obtain ⟨_, _, h4⟩ := Array.mem_zipIdx h3
          rw [h4]
          exact hv _ (Array.getElem_mem _)
        rw [← Array.foldl_toList]
        exact key _ cells hc h2

theorem mapM_any {α β : Type} (f : α → Sem β) (hf : ∀ a, Cl S P (f a) (fun _ => True)) (xs : Array α) : Cl S P (xs.mapM f) (fun _ => True) := by
  rw [Array.mapM_eq_foldlM, ← Array.foldlM_toList]
  have key : ∀ (l : List α) (bs : Array β), Cl S P (l.foldlM (fun bs a => bs.push <$> f a) bs) (fun _ => True) := by
    intro l
    induction l with
    | nil => exact fun bs => trivial
    | cons x l ih =>
      intro bs
      rw [List.foldlM_cons, map_eq_pure_bind]
      exact Cl.bind ((hf x).bind (Ψ := fun _ => True) fun b _ => trivial) fun bs' _ => ih bs'
  exact key _ _

theorem cl_build {t : TypeId} {parts : Array (Nat × Value)} (hz : ZeroOk S P t) (hp : ∀ p ∈ parts, Ok S p.2) : Cl S P (Instr.build t parts) (Ok S) := by
  unfold Instr.build
  refine (cl_zero hz).bind fun z hz => (cl_underlying t).bind fun d _ => ?_
  have hp' : ∀ p ∈ parts.toList, Ok S p.2 := fun p h => hp p (Array.mem_toList_iff.1 h)
  split
  · refine (mapM_any (fun f : Field => do pure (f.offset, ← sizeOf f.type)) (fun f => (cl_sizeOf f.type).bind fun _ _ => trivial) _).bind fun pl _ => ?_
    split
    · rename_i cs h; exact ok_agg.2 (fill_ok _ _ _ (ok_cells hz) hp' h)
    · exact cl_stuck
  · refine (cl_sizeOf _).bind fun n _ => ?_
    split
    · rename_i cs h; exact ok_agg.2 (fill_ok _ _ _ (ok_cells hz) hp' h)
    · exact cl_stuck
  · exact cl_stuck

theorem zeros_ok {z : Array Value} (hz : ∀ v ∈ z, Ok S v) (n : Nat) : ∀ v ∈ (Array.range n).map (z[· % z.size]!), Ok S v := by
  intro v hv
  obtain ⟨i, _, rfl⟩ := Array.mem_map.1 hv
  rw [getElem!_def]
  split
  · rename_i h; exact hz _ (Array.mem_of_getElem? h)
  · exact (.bool _ : Ok S (.bool _))

theorem cl_makeSlice {t : TypeId} {l c : Value} (hz : ∀ e, P.underlying t = some (.slice e) → ZeroOk S P e) : Cl S P (Instr.makeSlice t l c) (Ok S) := by
  unfold Instr.makeSlice
  refine (cl_underlying t).bind fun d hd => ?_
  split
  · rename_i e
    refine (cl_asInt l).bind fun n _ => (cl_asInt c).bind fun m _ => (cl_typeInfo e).bind fun i _ => ?_
    dsimp only
    have key : ∀ (z : Array Value), (∀ v ∈ z, Ok S v) → ∀ n a b, Cl S P (newRow e ((Array.range n).map (z[· % z.size]!)) >>= fun r => pure (.slice (some r) a b)) (Ok S) := fun z hz n a b =>
      (cl_newRow (zeros_ok hz n)).bind fun r hr => ok_slice.2 hr
    have rest : Cl S P (do
        askRoom ((IntKind.i64.wrap m).toNat * i.bytes)
        let n' := (IntKind.i64.wrap m).toNat * (← sizeOf e)
        let zero ← if n' = 0 then pure #[] else do pure (← zeroValue e).cells
        let a ← newRow e ((Array.range n').map (zero[· % zero.size]!))
        pure (.slice (some a) (IntKind.i64.wrap n).toNat (IntKind.i64.wrap m).toNat) : Sem Value) (Ok S) := by
      refine cl_seq cl_askRoom ((cl_sizeOf e).bind fun s _ => ?_)
      refine cl_ite (fun _ => key #[] (by simp) _ _ _) fun _ => ?_
      exact (cl_zero (hz e hd)).bind fun z hz => key _ (ok_cells hz) _ _ _
    refine cl_ite (fun _ => ?_) fun _ => rest
    refine cl_ite (fun _ => trivial) fun _ => ?_
    refine cl_ite (fun _ => trivial) fun _ => ?_
    exact fun n => trivial
  · exact cl_stuck
end

end Go.Proofs.YtiodikflmijhkaaGreatDoor.Vow
end
