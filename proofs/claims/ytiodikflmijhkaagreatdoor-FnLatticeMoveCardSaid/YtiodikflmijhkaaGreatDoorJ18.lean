/- Joined texts: F7. -/
import Derived.Test.YtiodikflmijhkaaGreatDoorJ17
set_option linter.unusedSectionVars false
set_option linter.unusedVariables false
namespace Go.Proofs.YtiodikflmijhkaaGreatDoor.Farm
open Go.Conc Go.ConcN
open Go.ConcR (KK wgBlock WgAt stA smA rd wr mk Payload Aside2 DC0 Bk g_of_ofEvents loc_of_ofEvent ofEvent_loc_mark again_blocked bk_of_mute ofEvent_cell)
variable [Payload]

theorem closeEv_ok {grp : Nat → Prop} {S : Loc → Prop} {wg : Option Addr} {B c : Nat} (hc : c < B) (hg : grp c) : ∀ e ∈ closeEvents c, EvW' grp wg S B e := by
  intro e he
  simp only [closeEvents, List.mem_toArray, List.mem_cons, List.not_mem_nil, or_false] at he
  rcases he with rfl | rfl
  · refine ⟨fun x hx => ?_, by simp, tlow_of_low (show (MemAct.ofEvent _).low B from hc)⟩
    simp only [MemAct.ofEvent, MemAct.touch?, Option.some.injEq] at hx
    subst hx
    exact .inl ⟨hg, by simp, by simp⟩
  · refine ⟨fun x hx => ?_, by simp, tlow_of_low (show (MemAct.ofEvent _).low B from hc)⟩
    simp only [MemAct.ofEvent, MemAct.touch?] at hx
    cases hx

theorem evW_of_Bk {grp : Nat → Prop} {S : Loc → Prop} {a0 : Option Addr} {B wg : Nat} (hg : grp wg) (hB : wg < B) {e : Event} (h : Bk wg e) : EvW' grp a0 S B e := by
  rcases h with h1 | h1 | ⟨a, wr, rfl, ha⟩
  · exact ⟨fun x hx => (by rw [ofEvent_loc_mark h1] at hx; cases hx), fun a _ => (by rw [h1]; simp), tlow_of_none (by rw [ofEvent_loc_mark h1]; rfl)⟩
  · exact ⟨fun x hx => (by rw [ofEvent_loc_mark h1] at hx; cases hx), fun a _ => (by rw [h1]; simp), tlow_of_none (by rw [ofEvent_loc_mark h1]; rfl)⟩
  · refine ⟨fun x hx => ?_, by simp, tlow_of_low (by rw [ofEvent_cell]; show a.block < B; omega)⟩
    simp only [ofEvent_cell, MemAct.touch?, Option.some.injEq] at hx
    subst hx
    exact .inl ⟨by show grp a.block; rw [ha]; exact hg, by simp, by simp⟩
/-- What the library's words list ahead of the release. -/
theorem evW_of_EvW {grp : Nat → Prop} {S : Loc → Prop} {B wg : Nat} (hg : grp wg) (hB : wg < B) {e : Event} (h : EvW wg No No 1 e) : EvW' grp (some (stA wg)) S B e := by
  have ht : ∀ x, (MemAct.ofEvent e).touch? = some x → ShN wg x.loc ∧ x.kind ≠ .plain ∧ x.kind ≠ .said := fun x hx => by
    rcases (h.1 default "").2 x hx with h1 | h1 | h1
    · exact h1
    · exact h1.elim
    · exact h1.1.elim
  refine ⟨fun x hx => ?_, fun a ha => by cases ha; exact h.2.2.2, fun x hx => ⟨fun a hl => ?_, fun r hl => ?_⟩⟩
  · obtain ⟨⟨a, e1, e2⟩, h2⟩ := ht x hx
    exact .inl ⟨by rw [e1]; show grp a.block; rw [e2]; exact hg, h2⟩
  · obtain ⟨⟨a', e1, e2⟩, _⟩ := ht x hx
    rw [hl] at e1; cases e1; omega
  · obtain ⟨⟨a', e1, e2⟩, _⟩ := ht x hx
    rw [hl] at e1; cases e1

section
variable {P : Program} {ty : TypeId} {Post : MSt → Goroutine → World → Prop} {κ j : Nat} {gs : Array Goroutine} {w w' : World} {sl : Option (Nat × Nat)} {t : Trace} {D : Nat → KD} {So : Nat → Nat → Prop} {qo : Nat → Nat} {st : MSt} {N f : Nat} {b : Bool} {a : Goroutine}

set_option maxHeartbeats 1600000 in
theorem closeStep (ha : gs[0]? = some a) (hcs : CS P ty Post st N f b a w) (hcom : Com P ty κ j gs w t D So qo st) (hgm : GM ty st j D b w) {i : Nat} (hi : i < j) {g g' : Goroutine} {Nw m C n : Nat} {val : Value} {S O : Nat → Prop} {c mo : Nat}
    (hD : D i = ⟨8 + Nw, mo, 0, S, O, c, []⟩) (hg : gs[κ + i]? = some g) (hOC : O C) (hmw : mayWake P g = true) (hg' : g'.status = .running) (hpay : PayAt C n w)
    (hcl : ∀ buf s r, w.heap[c]? = some (.chan 6 buf false s r false) → stepG P false g w = .go g' (w.setChan c 6 buf true s r false) (closeEvents c))
    (hG : Goes P false (RW ty st.wg C n 0 0) (DWs st.wg No No C n 1) (AtR0 P ty st.wg C n 0 1 val) m g' w) :
    ∃ m₁ ops μ', runT P (crowd gs w sl) (κ + i) = (.next m₁, ops) ∧ Lt2 μ' (mu κ j D qo N f) ∧ Inv P ty Post μ' m₁ (t ++ ops) := by
  have hl := hcom.notlaw hi
  obtain ⟨d', hd'⟩ : ∃ d' : KD, d' = ⟨7, m, 0, S, O, c, []⟩ := ⟨_, rfl⟩
  have ec : (D i).c = c := by rw [hD]
  have eS : (D i).S = S := by rw [hD]
  have eO : (D i).O = O := by rw [hD]
  obtain ⟨buf, s, r, h1, h2, h3⟩ := hcom.chan i hi
  rw [ec] at h1 h2 h3
  have est : decide ((D i).stage ≤ 7) = false := by rw [hD]; exact decide_eq_false (by simp; omega)
  have ess : (D i).ss = [] := by rw [hD]
  rw [est] at h1
  rw [ess] at h2
  have hclt : c < w.heap.size := by have := hcom.clt hi; rwa [ec] at this
  have hgo := hcl buf s r h1
  obtain ⟨w', hw'⟩ : ∃ w', w' = w.setChan c 6 buf true s r false := ⟨_, rfl⟩
  have hR : ROf ty st w w' := by have := rof_chan hcom hi 6 buf true s r false; rw [ec] at this; rw [hw']; exact this
  rw [← hw'] at hgo
  have hne : ∀ x, x ≠ c → w'.heap[x]? = w.heap[x]? := fun x hx => by rw [hw']; exact heap_setChan_ne' _ _ _ _ _ _ _ _ hx
  have hat : w'.heap[c]? = some (.chan 6 buf true s r false) := by rw [hw']; exact heap_setChan_at _ _ _ _ _ _ _ _ hclt
  have hsz : w'.heap.size = w.heap.size := by rw [hw']; exact size_setChan _ _ _ _ _ _ _ _
  have hcS : ∀ x, S x → x ≠ c := fun x hx e => hcom.ce hi hi (by rw [eS, ec]; exact e ▸ hx)
  have hwgc : st.wg ≠ c := by have := (hcom.cmay i hi).2.1; rw [ec] at this; omega
  have hSC : S C := by rw [← eS]; exact hcom.os i hi C (by rw [eO]; exact hOC)
  have eC := hne C (hcS C hSC)
  have hkeep : ∀ b', (b' = b ∨ (b = true ∧ b' = false)) → GM ty st j (upd D i d') b' w' := fun b' hb' => hgm.keep hi (by rw [hd', hD]; simp; omega) (hne _ hwgc) hb'
  have hcs' : ∃ f' b', CS P ty Post st N f' b' (Conc.woken P g g' w' a) w' ∧ f' ≤ f + 1 ∧ GM ty st j (upd D i d') b' w' := by
    by_cases hp : ∃ z g₂, a = parked g₂ #[rcase c z] (.recv true)
    · obtain ⟨z, g₂, rfl⟩ := hp
      have hbuf : buf = #[] := by
        generalize hA : parked g₂ #[rcase c z] (.recv true) = A at hcs
        cases hcs with
        | run h =>
          have := Goes.running (fun _ _ x => x.1) w (ROf.refl ty st w) h
          rw [← hA] at this; cases this
        | sem p1 p2 p3 =>
          have := (p3 w (ROf.refl ty st w)).off
          have eo := congrArg Goroutine.offers hA
          simp only [parked] at eo
          rw [this] at eo; cases eo
        | park p1 p2 p3 p4 p5 =>
          rename_i N c' z' g0 g2'
          have eo : (some (#[rcase c z], CommShape.recv true) : Option (Array CommCase × CommShape)) = some (#[rcase c' z'], CommShape.recv true) := congrArg Goroutine.offers hA
          have e1 : rcase c z = rcase c' z' := by simpa using eo
          obtain ⟨rfl, rfl⟩ : c = c' ∧ z = z' := by simpa [rcase] using e1
          obtain ⟨s0, r0, p4⟩ := p4
          rw [p4] at h1
          simp at h1; exact h1.1
      subst hbuf
      obtain ⟨f', h4, h5⟩ := hcs.closed hR hat hmw hg'
      refine ⟨f', false, h4, h5, hkeep false ?_⟩
      cases b
      · exact .inl rfl
      · exact .inr ⟨rfl, rfl⟩
    · obtain ⟨f', b', h4, h5, h6, _⟩ := hcs.woken hR (fun c' z' g2' _ e => hne _ fun e' => hp ⟨z', g2', by rw [← e']; exact e⟩) g g'
      exact ⟨f', b', h4, h5, hkeep b' h6⟩
  refine workerGo ha hcom hi hg hgo ?_ (by rw [hd', hD]) (by omega) (fun x hx _ _ hxc => hne x (by rw [← ec]; exact hxc i hi)) (fun x hx e => hne _ fun e' => e (hcom.cne x i hx hi (e'.trans ec.symm))) (live_of (hne _ hwgc)) (fun x hx => .inl (by rw [eS]; rw [hd'] at hx; exact hx)) (fun x hx => ?_)
    (fun x hx => by rw [hd'] at hx ⊢; exact ⟨by rw [← eS]; exact hcom.os i hi x (by rw [eO]; exact hx), .inl (by rw [eO]; exact hx)⟩) ?_ (fun _ => by rw [hd']) ?_ hcs' (.inl (by rw [hd', hD]; simp; omega))
  · rw [hd']
    obtain ⟨cs, hp1, hp2⟩ := hpay
    exact .lib hOC (Nat.le_refl _) ⟨cs, eC.trans hp1, hp2⟩ (.r0 (Goes.rely (R := RW ty st.wg C n 0 0) (fun _ _ _ a b => RW.trans a b) hG ⟨fun x hx => absurd hx (Nat.not_lt_zero _), live_of (hne _ hwgc), fun ⟨cs, h1, h2⟩ => ⟨cs, eC.trans h1, h2⟩, cell_of_block eC _⟩))
  · obtain ⟨_, _, _, _, cs, t', fr, h5⟩ := hcom.sw i hi x hx
    exact ⟨cs, t', fr, (hne x (hcS x (by rw [← eS]; exact hx))).trans h5⟩
  · rw [ec]
    exact ⟨buf, s, r, by rw [hd']; exact hat, by rw [hd']; exact h2, h3⟩
  · exact tf_worker hcom hi (by rw [hd', eS]) (by omega) (closeEv_ok (by omega) (ec ▸ (hcom.cmay i hi).1)) (by rw [hD, hd']; simp [closeEvents, deafBehind]) (fun h6 => by rw [hd'] at h6; simp at h6)

set_option maxHeartbeats 3200000 in
/-- A STEP BEHIND ITS CLOSE. -/
theorem libStep (ha : gs[0]? = some a) (hcs : CS P ty Post st N f b a w) (hcom : Com P ty κ j gs w t D So qo st) (hgm : GM ty st j D b w) {i : Nat} (hi : i < j) {g : Goroutine} {s m d C n c : Nat} {val : Value} {S O : Nat → Prop}
    (hD : D i = ⟨s, m, d, S, O, c, []⟩) (hg : gs[κ + i]? = some g) (hrun : g.status = .running) (hOC : O C) (h7 : s ≤ 7) (hpay : PayAt C n w) (hs : WSit P ty st.wg C n No No 0 1 val s m d g w) :
    ∃ m₁ ops μ', runT P (crowd gs w sl) (κ + i) = (.next m₁, ops) ∧ Lt2 μ' (mu κ j D qo N f) ∧ Inv P ty Post μ' m₁ (t ++ ops) := by
  have hl := hcom.notlaw hi
  obtain ⟨hgw, hwlt⟩ := hcom.grp hl
  have ec : (D i).c = c := by rw [hD]
  have eS : (D i).S = S := by rw [hD]
  have eO : (D i).O = O := by rw [hD]
  have hSC : S C := by rw [← eS]; exact hcom.os i hi C (by rw [eO]; exact hOC)
  have hCW : C ≠ st.wg := hcom.wgS hi (by rw [eS]; exact hSC)
  have hCc : ∀ x, x < j → (D x).c ≠ C := fun x hx e => hcom.ce hi hx (by rw [eS, e]; exact hSC)
  have hwgc : ∀ x, x < j → (D x).c ≠ st.wg := fun x hx => by have := (hcom.cmay x hx).2.1; omega
  have e7 : (D7 D i).stage = s := by simp only [D7, hD]; omega
  have hdk : Deaf t (κ + i) = d := by rw [hcom.tf.deafW i hi, hD]
  obtain ⟨⟨sv, mv, hwg, hmode⟩, hbd, hbdm⟩ := hgm
  have hVj := Vc_le j (D7 D)
  -- whatever such a step does: the group's block, its own block C
  have go : ∀ {g' : Goroutine} {w' : World} {es : Array Event} {s' m' dd' : Nat}, stepG P false g w = .go g' w' es → w'.heap.size = w.heap.size → w'.tape = w.tape → w'.os = w.os → w'.output = w.output → (∀ x, x ≠ st.wg → x ≠ C → w'.heap[x]? = w.heap[x]?) → WgLive ty st.wg w' →
      PayAt C n w' → (∀ e ∈ es, EvW' st.grp (some (stA st.wg)) (fun l => ∃ a, l = .cell a ∧ (D i).S a.block) w.heap.size e) → WSit P ty st.wg C n No No 0 1 val s' m' dd' g' w' → deafBehind d es = dd' → s' ≤ 7 →
      (s' ≤ 6 → RelBy (stA st.wg) (t ++ MemOp.ofEvents (κ + i) g.frame.fn g.frame.place es) (κ + i) t.size ∨ (s ≤ 6 ∧ ∀ r, RelBy (stA st.wg) t (κ + i) r → RelBy (stA st.wg) (t ++ MemOp.ofEvents (κ + i) g.frame.fn g.frame.place es) (κ + i) r)) →
      (∀ b', (b' = b ∨ (b = true ∧ b' = false)) → (mayWake P g = true → g'.status = .running → b' = false) → ∃ s₁ m₁, WgAt ty st.wg w' s₁ m₁ ∧ ConcN.Mode j (upd (D7 D) i ⟨s', 0, 0⟩) (tgOf st.tag b') s₁ m₁) → (s' < s ∨ (s' = s ∧ m' + 1 = m)) →
      ∃ m₁ ops μ', runT P (crowd gs w sl) (κ + i) = (.next m₁, ops) ∧ Lt2 μ' (mu κ j D qo N f) ∧ Inv P ty Post μ' m₁ (t ++ ops) := by
    intro g' w' es s' m' dd' hgo hsz ht ho hout hne hlv hpay' hev hs' hdd hs7 hrel hmode' hlt
    obtain ⟨d', hd'⟩ : ∃ d' : KD, d' = ⟨s', m', dd', S, O, c, []⟩ := ⟨_, rfl⟩
    have hR : ROf ty st w w' := rof_of hcom hl ht ho hout (by omega) (X := fun x => x = st.wg ∨ x = C) (fun x hx => by
      rcases hx with rfl | rfl
      · exact ⟨fun hm => hm.elim (fun y => hcom.gm _ y hgw) fun y => Nat.lt_irrefl _ y.2.2, Nat.le_refl _⟩
      · refine ⟨fun hm => hm.elim (fun y => (hcom.sw i hi x (by rw [eS]; exact hSC)).2.1 y) fun y => (hcom.sw i hi x (by rw [eS]; exact hSC)).2.2.1 y.1, ?_⟩
        exact Nat.le_of_lt (hcom.ow i hi x (by rw [eO]; exact hOC))) (fun x _ hx => hne x (fun e => hx (.inl e)) (fun e => hx (.inr e))) (fun _ => hlv)
    obtain ⟨f', b', h4, h5, h6, h8⟩ := hcs.woken hR (fun c' _ _ hc' _ => by
      obtain ⟨x, hx, rfl⟩ := hcom.chs c' hl hc'
      exact hne _ (hwgc x hx) (hCc x hx)) g g'
    refine workerGo ha hcom hi hg hgo (d' := d') (by rw [hd']; exact .lib hOC hs7 hpay' hs') (by rw [hd', hD]) (by omega) (fun x _ hx1 hx2 _ => hne x hx1 fun e => hx2 (by rw [eO, e]; exact hOC)) (fun x hx _ => hne _ (hwgc x hx) (hCc x hx)) (fun _ => hlv) (fun x hx => .inl (by rw [eS]; rw [hd'] at hx; exact hx)) (fun x hx => ?_)
      (fun x hx => by rw [hd'] at hx ⊢; exact ⟨by rw [← eS]; exact hcom.os i hi x (by rw [eO]; exact hx), .inl (by rw [eO]; exact hx)⟩) ?_ (fun _ => by rw [hd']) ?_ ⟨f', b', h4, h5, ?_⟩ (by rw [hd', hD]; exact hlt)
    · obtain ⟨_, _, _, _, cs, t', fr, h5⟩ := hcom.sw i hi x hx
      by_cases e : x = C
      · subst e
        obtain ⟨cs', hp1, _⟩ := hpay'
        exact ⟨cs', _, _, hp1⟩
      · exact ⟨cs, t', fr, (hne x (hcom.wgS hi hx) e).trans h5⟩
    · obtain ⟨buf, s0, r0, h1, h2, h3⟩ := hcom.chan i hi
      have e3 : (D i).ss = [] := by rw [hD]
      rw [e3] at h2
      refine ⟨buf, s0, r0, ?_, by rw [hd']; exact h2, h3⟩
      have e1 : d'.c = (D i).c := by rw [hd', hD]
      have e2 : decide (d'.stage ≤ 7) = decide ((D i).stage ≤ 7) := by rw [hd', hD, decide_eq_true hs7, decide_eq_true h7]
      rw [e1, e2, hne _ (hwgc i hi) (hCc i hi)]
      exact h1
    · exact tf_worker hcom hi (by rw [hd', eS]) (by omega) (by rw [hsz]; exact hev) (by rw [hD, hd']; exact hdd) (fun h6' => (hrel (by rw [hd'] at h6'; exact h6')).imp id fun x => ⟨by rw [hD]; exact x.1, x.2⟩)
    · obtain ⟨s₁, m₁, g1, g2⟩ := hmode' b' h6 h8
      have e9 : D7 (upd D i d') = upd (D7 D) i ⟨s', 0, 0⟩ := by rw [D7_upd, hd']; simp only [Nat.min_eq_left hs7]
      have hv := Vc_upd (D7 D) (⟨s', 0, 0⟩ : WD) hi
      have hle : cnt (⟨s', 0, 0⟩ : WD) ≤ cnt (D7 D i) := by
        simp only [cnt, e7]
        split <;> split <;> omega
      exact ⟨⟨s₁, m₁, g1, by rw [e9]; exact g2⟩, fun p hp => by rw [e9]; have := hbd p hp; omega, hbdm⟩
  have aside : ∀ {w' : World}, Aside st.wg w w' → w'.heap.size = w.heap.size ∧ w'.tape = w.tape ∧ w'.os = w.os ∧ w'.output = w.output ∧ (∀ x, x ≠ st.wg → x ≠ C → w'.heap[x]? = w.heap[x]?) ∧ PayAt C n w' := fun h => by
    obtain ⟨cs, h1, h2⟩ := hpay
    exact ⟨h.size, h.tape, h.os, h.output, fun x hx _ => h.block x hx, cs, (h.block C hCW).trans h1, h2⟩
  have live : WgLive ty st.wg w := ⟨_, _, hwg⟩
  -- A STEP OF THE LIBRARY's BOOKKEEPING
  have bookG : ∀ {g' : Goroutine} {w' : World} {es : Array Event} {s' m' dd' : Nat} {st' sm' : Int}, stepG P false g w = .go g' w' es → Aside st.wg w w' → WgAt ty st.wg w' st' sm' → (∀ e ∈ es, Bk st.wg e) →
      (∀ jx e, es[jx]? = some e → (MemAct.ofEvent e).touch? = none ∨ 0 < deafBehind d (es.extract 0 jx)) → WSit P ty st.wg C n No No 0 1 val s' m' dd' g' w' → deafBehind d es = dd' → s ≤ 6 → s' ≤ s →
      (∀ b', (b' = b ∨ (b = true ∧ b' = false)) → (mayWake P g = true → g'.status = .running → b' = false) → ConcN.Mode j (upd (D7 D) i ⟨s', 0, 0⟩) (tgOf st.tag b') st' sm') → (s' < s ∨ (s' = s ∧ m' + 1 = m)) →
      ∃ m₁ ops μ', runT P (crowd gs w sl) (κ + i) = (.next m₁, ops) ∧ Lt2 μ' (mu κ j D qo N f) ∧ Inv P ty Post μ' m₁ (t ++ ops) := by
    intro g' w' es s' m' dd' st' sm' hgo hAs hwg' hbk hd hs' hdd h6 hle hmode' hlt
    obtain ⟨a1, a2, a3, a4, a5, a6⟩ := aside hAs
    exact go hgo a1 a2 a3 a4 a5 ⟨_, _, hwg'⟩ a6 (fun e he => evW_of_Bk hgw hwlt (hbk e he)) hs' hdd (by omega) (fun _ => .inr ⟨h6, fun r hr => hr.book hdk _ _ hbk hd⟩) (fun b' h1 h2 => ⟨_, _, hwg', hmode' b' h1 h2⟩) hlt
  have book : ∀ {g' : Goroutine} {w' : World} {es : Array Event} {s' m' dd' : Nat} {st' sm' : Int}, stepG P false g w = .go g' w' es → Aside st.wg w w' → WgAt ty st.wg w' st' sm' → (∀ e ∈ es, Bk st.wg e) →
      (∀ jx e, es[jx]? = some e → (MemAct.ofEvent e).touch? = none ∨ 0 < deafBehind d (es.extract 0 jx)) → WSit P ty st.wg C n No No 0 1 val s' m' dd' g' w' → deafBehind d es = dd' → s ≤ 6 → s' ≤ s →
      ConcN.Mode j (upd (D7 D) i ⟨s', 0, 0⟩) (tgOf st.tag b) st' sm' → (s' < s ∨ (s' = s ∧ m' + 1 = m)) →
      ∃ m₁ ops μ', runT P (crowd gs w sl) (κ + i) = (.next m₁, ops) ∧ Lt2 μ' (mu κ j D qo N f) ∧ Inv P ty Post μ' m₁ (t ++ ops) :=
    fun hgo hAs hwg' hbk hd hs' hdd h6 hle hmode' hlt => bookG hgo hAs hwg' hbk hd hs' hdd h6 hle (fun _ ht _ => hmode'.retag (tg_retag _ ht)) hlt
  have same : ConcN.Mode j (upd (D7 D) i ⟨s, 0, 0⟩) (tgOf st.tag b) sv mv := by have := hmode.same (i := i) 0 0; rwa [e7] at this
  have idle : ∀ {g' : Goroutine} {m' : Nat}, stepG P false g w = .go g' w #[] → WSit P ty st.wg C n No No 0 1 val s m' d g' w → m' + 1 = m → s ≤ 6 →
      ∃ m₁ ops μ', runT P (crowd gs w sl) (κ + i) = (.next m₁, ops) ∧ Lt2 μ' (mu κ j D qo N f) ∧ Inv P ty Post μ' m₁ (t ++ ops) := by
    intro g' m' hgo hs' hm h6
    exact book hgo (.refl st.wg w) hwg (by simp) (by simp) hs' rfl h6 (Nat.le_refl _) same (.inr ⟨rfl, hm⟩)
  have bk2 : ∀ e ∈ #[rd (stA st.wg), wr (stA st.wg)], Bk st.wg e := by intro e he; simp at he; rcases he with rfl | rfl <;> exact bk_cell _ _ rfl
  have bk1 : ∀ e ∈ #[rd (stA st.wg)], Bk st.wg e := by intro e he; simp at he; subst he; exact bk_cell _ _ rfl
  have bk1w : ∀ e ∈ #[wr (stA st.wg)], Bk st.wg e := by intro e he; simp at he; subst he; exact bk_cell _ _ rfl
  have df2 : ∀ jx e, (#[rd (stA st.wg), wr (stA st.wg)] : Array Event)[jx]? = some e → (MemAct.ofEvent e).touch? = none ∨ 0 < deafBehind 1 ((#[rd (stA st.wg), wr (stA st.wg)] : Array Event).extract 0 jx) := by
    intro jx e he
    match jx, he with
    | 0, _ => exact .inr (by simp [deafBehind])
    | 1, _ => exact .inr (by simp [deafBehind, rd])
    | jx + 2, he => simp at he
  have df1 : ∀ (ev : Event) jx e, (#[ev] : Array Event)[jx]? = some e → (MemAct.ofEvent e).touch? = none ∨ 0 < deafBehind 1 ((#[ev] : Array Event).extract 0 jx) := by
    intro ev jx e he
    match jx, he with
    | 0, _ => exact .inr (by simp [deafBehind])
    | jx + 1, he => simp at he
  cases hs with
  | r0 h =>
    rcases Goes.cases h with hstop | ⟨m', rfl, hstep⟩
    · obtain ⟨_, hhas, g', hgo, m₂, hk⟩ := hstop w (RW.refl w)
      obtain ⟨a1, a2, a3, a4, a5, a6⟩ := aside (.refl st.wg w)
      refine go hgo a1 a2 a3 a4 a5 live a6 (fun e he => ?_) (.k1 hk) rfl (by omega) (fun _ => .inl (RelBy.new hdk _ _)) (fun b' hb' _ => ⟨_, _, hwg, ((hmode.counted hi (by rw [e7]; omega) (.inl rfl) 0 0)).retag (tg_retag _ hb')⟩) (.inl (by omega))
      simp at he
      subst he
      exact ⟨fun x hx => (by cases hx), fun a _ => (by simp [mk]), tlow_of_none rfl⟩
    · obtain ⟨g', w', es, hgo, ⟨hac, hev⟩, hg'⟩ := hstep w (RW.refl w)
      have hwb : w'.heap[st.wg]? = w.heap[st.wg]? := hac.block _ (Ne.symm hCW)
      exact go hgo hac.size hac.tape hac.os hac.output (fun x _ hx => hac.block x hx) (live_of hwb live) (hac.pay hpay) (fun e he => evW_of_EvW hgw hwlt (hev e he)) (.r0 hg') (deafBehind_idle (fun e he => ⟨(hev e he).2.1, (hev e he).2.2.1⟩) 0) (by omega) (fun h6 => absurd h6 (by omega))
        (fun b' hb' _ => ⟨_, _, hwg.of_block hwb, same.retag (tg_retag _ hb')⟩) (.inr ⟨rfl, rfl⟩)
  | k1 h =>
    rcases Goes.cases h with hstop | ⟨m', rfl, hstep⟩
    · obtain ⟨_, g', hgo, m₂, hk⟩ := hstop w (RW.refl w)
      exact book hgo (.refl st.wg w) hwg (by intro e he; simp at he; subst he; exact .inl rfl) (by intro jx e he; exact .inl (by have := Array.mem_of_getElem? he; simp at this; subst this; rfl)) (.d1 hk) rfl (by omega) (by omega)
        (hmode.counted hi (by rw [e7]; omega) (.inr rfl) 0 0) (.inl (by omega))
    · obtain ⟨g', w', es, hgo, ⟨rfl, rfl⟩, hg'⟩ := hstep w (RW.refl w)
      exact idle hgo (.k1 hg') rfl (by omega)
  | d1 h =>
    rcases Goes.cases h with hstop | ⟨m', rfl, hstep⟩
    · obtain ⟨_, hall⟩ := hstop w (RW.refl w)
      have hc1 : cnt (D7 D i) = 1 := by simp [cnt, e7]
      have hV1 : 1 ≤ Vc j (D7 D) := by have := le_sumTo (f := fun x => cnt (D7 D x)) hi; simp only [Vc]; omega
      have hj1 := hcom.j1
      have opq : OpenSt j (D7 D) → OpenSt j (upd (D7 D) i ⟨1, 0, 0⟩) := fun h a ha => by
        by_cases e : a = i
        · subst e; rw [upd_same]; simp
        · rw [upd_ne (D7 D) _ e]; exact h a ha
      have hvq := Vc_upd (D7 D) (⟨1, 0, 0⟩ : WD) hi
      have c0 : cnt (⟨1, 0, 0⟩ : WD) = 0 := rfl
      generalize hT : tgOf st.tag b = T at hmode
      cases hmode with
      | opn h1 h2 h3 =>
        have hp1 : pend T ≤ 1 := by cases T <;> simp only [pend] <;> (try split) <;> omega
        obtain ⟨v, hv⟩ : ∃ v, Vc j (D7 D) + pend T = v + 1 := ⟨Vc j (D7 D) + pend T - 1, by omega⟩
        rw [hv] at hwg
        have hw1 : WgAt ty st.wg w (((v : Nat) + 1) * KK + ((0 : Nat) : Int)) 0 := by simpa using hwg
        obtain ⟨g', hgo, _, hq⟩ := hall v 0 (by omega) (by omega) hw1
        obtain ⟨q, hq⟩ := hq (by omega)
        have hv' : Vc j (upd (D7 D) i ⟨1, 0, 0⟩) + pend T = v := by omega
        refine book hgo (aside_setCell w (stA st.wg) _) (hwg.setSt _) bk2 df2 (.quit hq) rfl (by omega) (by omega) ?_ (.inl (by omega))
        have e : ((v : Nat) : Int) * KK + ((0 : Nat) : Int) = ((Vc j (upd (D7 D) i ⟨1, 0, 0⟩) + pend T : Nat) : Int) * KK := by rw [hv']; simp
        rw [e, hT]
        exact .opn h1 (opq h2) (fun vs ev => by have := h3 vs ev; omega)
      | reg h1 h2 h3 =>
        obtain ⟨v, hv⟩ : ∃ v, Vc j (D7 D) = v + 1 := ⟨Vc j (D7 D) - 1, by omega⟩
        rw [hv] at hwg
        have hw1 : WgAt ty st.wg w (((v : Nat) + 1) * KK + ((1 : Nat) : Int)) 0 := by simpa using hwg
        obtain ⟨g', hgo, hl', hq⟩ := hall v 1 (by omega) (by omega) hw1
        by_cases hv0 : v = 0
        · subst hv0
          obtain ⟨m₂, hk⟩ := hl' ⟨rfl, rfl⟩
          refine book hgo (aside_setCell w (stA st.wg) _) (hwg.setSt _) bk2 df2 (.d2 hk) rfl (by omega) (by omega) ?_ (.inl (by omega))
          have hoth : ∀ a, a < j → a ≠ i → (D7 D a).stage = 1 := fun a ha e => by
            have c0 := others_uncounted hi hv hc1 a ha e
            have := h2 a ha
            simp only [cnt] at c0
            split at c0 <;> omega
          have := ConcN.Mode.last (j := j) (D := upd (D7 D) i ⟨4, 0, 0⟩) (tag := T) i h1 hi (by rw [upd_same]; simp) (fun a ha e => by rw [upd_ne (D7 D) _ e]; exact hoth a ha e)
          rw [upd_same] at this
          rw [hT]
          simpa using this
        · obtain ⟨q, hq⟩ := hq (by omega)
          have hv' : Vc j (upd (D7 D) i ⟨1, 0, 0⟩) = v := by omega
          refine book hgo (aside_setCell w (stA st.wg) _) (hwg.setSt _) bk2 df2 (.quit hq) rfl (by omega) (by omega) ?_ (.inl (by omega))
          have e : ((v : Nat) : Int) * KK + ((1 : Nat) : Int) = ((Vc j (upd (D7 D) i ⟨1, 0, 0⟩) : Nat) : Int) * KK + 1 := by rw [hv']; simp
          rw [e, hT]
          exact .reg h1 (opq h2) (by omega)
      | last L _ h2 h3 h4 =>
        by_cases e : i = L
        · subst e; omega
        · have := h4 i hi e; omega
      | sema h2 => have := h2 i hi; omega
      | fin _ h2 => have := h2 i hi; omega
    · obtain ⟨g', w', es, hgo, ⟨rfl, rfl⟩, hg'⟩ := hstep w (RW.refl w)
      exact idle hgo (.d1 hg') rfl (by omega)
  | d2 h =>
    rcases Goes.cases h with hstop | ⟨m', rfl, hstep⟩
    · obtain ⟨_, hx⟩ := hstop w (RW.refl w)
      obtain ⟨hW3, hoth, rfl, rfl⟩ := hmode.isLast hi (by rw [e7]; omega)
      simp only [e7] at hwg
      obtain ⟨g', hgo, m₂, hk⟩ := hx (by simpa using hwg)
      refine book hgo (.refl st.wg w) hwg bk1 (df1 _) (.d3 hk) rfl (by omega) (by omega) ?_ (.inl (by omega))
      have := ConcN.Mode.last (j := j) (D := upd (D7 D) i ⟨3, 0, 0⟩) (tag := tgOf st.tag b) i hW3 hi (by rw [upd_same]; simp) (fun a ha e => by rw [upd_ne (D7 D) _ e]; exact hoth a ha e)
      rw [upd_same] at this
      simpa using this
    · obtain ⟨g', w', es, hgo, ⟨rfl, rfl⟩, hg'⟩ := hstep w (RW.refl w)
      exact idle hgo (.d2 hg') rfl (by omega)
  | d3 h =>
    rcases Goes.cases h with hstop | ⟨m', rfl, hstep⟩
    · obtain ⟨_, hx⟩ := hstop w (RW.refl w)
      obtain ⟨hW3, hoth, rfl, rfl⟩ := hmode.isLast hi (by rw [e7]; omega)
      simp only [e7] at hwg
      obtain ⟨g', hgo, m₂, hk⟩ := hx (by simpa using hwg)
      refine book hgo (aside_setCell w (stA st.wg) _) (hwg.setSt 0) bk1w (df1 _) (.d4 hk) rfl (by omega) (by omega) ?_ (.inl (by omega))
      have := ConcN.Mode.last (j := j) (D := upd (D7 D) i ⟨2, 0, 0⟩) (tag := tgOf st.tag b) i hW3 hi (by rw [upd_same]; simp) (fun a ha e => by rw [upd_ne (D7 D) _ e]; exact hoth a ha e)
      rw [upd_same] at this
      simpa using this
    · obtain ⟨g', w', es, hgo, ⟨rfl, rfl⟩, hg'⟩ := hstep w (RW.refl w)
      exact idle hgo (.d3 hg') rfl (by omega)
  | d4 h =>
    rcases Goes.cases h with hstop | ⟨m', rfl, hstep⟩
    · obtain ⟨_, hmw, hx⟩ := hstop w (RW.refl w)
      obtain ⟨hW3, hoth, rfl, rfl⟩ := hmode.isLast hi (by rw [e7]; omega)
      simp only [e7] at hwg
      obtain ⟨g', hgo, q, hq⟩ := hx (by simpa using hwg)
      have hrun' : g'.status = .running := by
        cases q with
        | zero => exact absurd hq.2 (by decide)
        | succ q => exact hq.elim (fun x => absurd x.2 (by decide)) (fun x => x.1)
      refine bookG hgo (aside_setCell w (smA st.wg) _) (hwg.setSm 1) (es := semEvents (smA st.wg)) ?_ ?_ (.quit hq) (by simp [deafBehind, semEvents]) (by omega) (by omega) ?_ (.inl (by omega))
      · intro e he
        simp [semEvents] at he
        rcases he with rfl | rfl | rfl | rfl
        · exact .inl rfl
        · exact bk_cell _ _ rfl
        · exact bk_cell _ _ rfl
        · exact .inr (.inl rfl)
      · intro jx e he
        match jx, he with
        | 0, he => simp [semEvents] at he; subst he; exact .inl rfl
        | 1, _ => exact .inr (by simp [deafBehind, semEvents])
        | 2, _ => exact .inr (by simp [deafBehind, semEvents])
        | 3, he => simp [semEvents] at he; subst he; exact .inl rfl
        | jx + 4, he => simp [semEvents] at he
      · intro b' hb' hw
        obtain rfl := hw hmw hrun'
        have e3 : tgOf st.tag false = .w3 := by
          cases hT : st.tag with
          | w3 => rfl
          | opn p => rw [hT] at hW3; cases p <;> exact hW3.elim
          | _ => rw [hT] at hW3; exact hW3.elim
        rw [e3]
        simp only [if_true]
        exact .sema fun a ha => by
          by_cases e : a = i
          · subst e; rw [upd_same]
          · rw [upd_ne (D7 D) _ e]; exact hoth a ha e
    · obtain ⟨g', w', es, hgo, ⟨rfl, rfl⟩, hg'⟩ := hstep w (RW.refl w)
      exact idle hgo (.d4 hg') rfl (by omega)
  | quit h =>
    cases m with
    | zero => rw [h.1] at hrun; cases hrun
    | succ q =>
      rcases h with ⟨hf, _⟩ | ⟨_, g', es, hmute, hstep, hq⟩
      · rw [hf] at hrun; cases hrun
      · have hbk : ∀ e ∈ es, Bk st.wg e := fun e he => bk_of_mute (hmute e he)
        have hno : ∀ jx e, es[jx]? = some e → (MemAct.ofEvent e).touch? = none ∨ 0 < deafBehind d (es.extract 0 jx) := fun jx e he => .inl (touch_mute (hmute e (Array.mem_of_getElem? he)))
        exact book (hstep w) (.refl st.wg w) hwg hbk hno (.quit hq) rfl (by omega) (by omega) same (.inr ⟨rfl, rfl⟩)
end

end Go.Proofs.YtiodikflmijhkaaGreatDoor.Farm
