/- Joined texts: F8 F9. -/
import Derived.Test.YtiodikflmijhkaaGreatDoorJ18
section
set_option linter.unusedSectionVars false
set_option linter.unusedVariables false
namespace Go.Proofs.YtiodikflmijhkaaGreatDoor.Farm
open Go.Conc Go.ConcN
open Go.ConcR (KK wgBlock WgAt stA smA rd wr mk Payload Aside2 DC0 Bk g_of_ofEvents loc_of_ofEvent ofEvent_loc_mark again_blocked bk_of_mute ofEvent_cell)
variable [Payload]

section
variable {P : Program} {ty : TypeId} {Post : MSt → Goroutine → World → Prop} {κ j : Nat} {gs : Array Goroutine} {w w' : World} {sl : Option (Nat × Nat)} {t : Trace} {D : Nat → KD} {So : Nat → Nat → Prop} {qo : Nat → Nat} {st st' : MSt} {N N' f f' : Nat} {b b' : Bool} {a a' : Goroutine}

set_option maxHeartbeats 800000 in
theorem stepWorker (ha : gs[0]? = some a) (hcs : CS P ty Post st N f b a w) (hcom : Com P ty κ j gs w t D So qo st) (hgm : st.tag ≠ .law → GM ty st j D b w) {i : Nat} (hi : i < j) {g : Goroutine} (hg : gs[κ + i]? = some g) (hrun : g.status = .running) :
    ∃ m₁ ops μ', runT P (crowd gs w sl) (κ + i) = (.next m₁, ops) ∧ Lt2 μ' (mu κ j D qo N f) ∧ Inv P ty Post μ' m₁ (t ++ ops) := by
  have hgm := hgm (hcom.notlaw hi)
  obtain ⟨g₁, hg₁, hs⟩ := hcom.wk i hi
  obtain rfl : g = g₁ := by rw [hg] at hg₁; exact Option.some.inj hg₁
  generalize hD : D i = d at hs
  cases hs with
  | lib hOC h7 hp hs => exact libStep ha hcs hcom hgm hi hD hg hrun hOC h7 hp hs
  | scr hN h =>
    rename_i Nw m c S O ss
    have hos : ∀ x, O x → S x := fun x hx => by have := hcom.os i hi x (by rw [hD]; exact hx); rwa [hD] at this
    rcases Goes.cases h with hstop | ⟨m', rfl, hstep⟩
    · obtain ⟨_, hst⟩ := hstop w (RK.refl w)
      cases hst with
      | new cs t' g' hgo hK =>
        cases Nw with
        | zero => exact hK.elim
        | succ Nw =>
          obtain ⟨m₂, hK⟩ := hK
          refine scrGo (d' := ⟨8 + Nw, m₂, 0, fun x => S x ∨ x = w.heap.size, fun x => O x ∨ x = w.heap.size, c, ss⟩) ha hcs hcom hgm hi hg hgo (.scr (by omega) hK) (by rw [hD]) (by rw [hD]) (by rw [hD]; simp) (by simp) (.inr ⟨cs, t', rfl⟩)
            (.inr ⟨by rw [hD], cs, t', rfl⟩) (fun x hx => ⟨hx.elim (fun y => .inl (hos x y)) .inr, by rw [hD]; exact hx⟩) (by simp) (by rw [hD]) (.inl (by rw [hD]; simp))
      | send v z r g₂ es hss hgo hev hK =>
        subst hss
        cases Nw with
        | zero => exact hK.elim
        | succ Nw =>
          obtain ⟨m₂, hK⟩ := hK
          exact sendStep ha hcs hcom hgm hi hD hN hg hgo hev hK
      | close g' C n m₂ val hss hOC hmw hr hp hcl hG =>
        subst hss
        exact closeStep ha hcs hcom hgm hi hD hg hOC hmw hr hp hcl hG
    · obtain ⟨g', w', es, hgo, ⟨⟨d, rfl⟩, hev⟩, hg'⟩ := hstep w (RK.refl w)
      exact scrGo (d' := ⟨8 + Nw, m', 0, S, O, c, ss⟩) ha hcs hcom hgm hi hg hgo (.scr hN hg') (by rw [hD]) (by rw [hD]) (by rw [hD]; simp) (by simp) (.inl ⟨d, rfl⟩) (.inl (by rw [hD])) (fun x hx => ⟨hos x hx, .inl (by rw [hD]; exact hx)⟩) (by rw [hD]; exact hev) (by rw [hD]) (.inr ⟨by rw [hD], by rw [hD]⟩)

theorem gs_main (h : Com P ty κ j gs w t D So qo st) (g g' : Goroutine) (w' : World) : ∀ x, 1 ≤ x → ((gs.map (Conc.woken P g g' w')).setIfInBounds 0 a')[x]? = gs[x]? := by
  intro x h1
  rw [get_map_set _ _ _ _ (by omega)]
  cases hgx : gs[x]? with
  | none => rfl
  | some y =>
    rcases Nat.lt_or_ge x κ with hlt' | hge
    · obtain ⟨z, hz, hq⟩ := h.old x h1 hlt'
      rw [hgx] at hz; cases hz
      simp [woken_quitsD hq]
    · have hxj : x - κ < j := by have := (Array.getElem?_eq_some_iff.1 hgx).1; rw [h.size] at this; omega
      obtain ⟨z, hz, hks⟩ := h.wk (x - κ) hxj
      rw [show κ + (x - κ) = x by omega, hgx] at hz; cases hz
      simp [hks.woken]

/-- THE MASTER LAW OF THE STARTER's OWN STEP. -/
theorem mainGo (ha : gs[0]? = some a) (hcom : Com P ty κ j gs w t D So qo st) {es : Array Event} (hgo : stepG P true a w = .go a' w' es) (hcs' : CS P ty Post st' N' f' b' a' w')
    (hcom' : Com P ty κ j ((gs.map (Conc.woken P a a' w')).setIfInBounds 0 a') w' (t ++ MemOp.ofEvents 0 a.frame.fn a.frame.place es) D So qo st') (hgm' : st'.tag ≠ .law → GM ty st' j D b' w') (hlt : N' < N ∨ (N' = N ∧ f' < f)) :
    ∃ m₁ ops μ', runT P (crowd gs w sl) 0 = (.next m₁, ops) ∧ Lt2 μ' (mu κ j D qo N f) ∧ Inv P ty Post μ' m₁ (t ++ ops) := by
  have hrun := runT_crowd_go (P := P) (sl := sl) (i := 0) ha (by simpa using hgo)
  refine ⟨_, _, mu κ j D qo N' f', hrun, ?_, _, w', sl, κ, j, D, So, qo, st', N', f', b', a', rfl, get_map_set_same _ _ _ (by rw [hcom.size]; have := hcom.k1; omega), hcs', hcom', hgm', rfl⟩
  unfold mu
  rcases hlt with h | ⟨rfl, h⟩
  · exact Prod.Lex.left _ _ (by omega)
  · exact Prod.Lex.right _ (by omega)

theorem not_rd (h : Com P ty κ j gs w t D So qo st) {l : Loc} (hl : (∃ x, l = .cell x ∧ st.may x.block) ∨ ∃ r, l = .obj r ∧ st.may r) : ∀ k, 1 ≤ k → k ≤ κ + j - 1 → ¬ RdF κ j D So k l := by
  rintro k _ _ ⟨y, hy, hh⟩
  rcases hl with ⟨x, rfl, hx⟩ | ⟨r, rfl, _⟩
  · cases hy
    rcases hh with ⟨h1, h2⟩ | ⟨h1, h2, h3⟩
    · exact (h.so k h1 _ h2).2.1 hx
    · exact (h.sw _ (by omega) _ h3).2.1 hx
  · cases hy

theorem tf_main (h : Com P ty κ j gs w t D So qo st) {fn : FuncId} {pos : String} {es : Array Event} (hsz : w.heap.size ≤ w'.heap.size) (hev : ∀ e ∈ es, EvM st w'.heap.size e) :
    TF κ j w'.heap.size st.grp (RdF κ j D So) st.d (fun x => (D x).deaf) (aOf st) (fun x => (D x).stage ≤ 6) (t ++ MemOp.ofEvents 0 fn pos es) := by
  have := h.tf.main h.k1 h.apart (fn := fn) (pos := pos) (es := es) hsz fun e he => ⟨fun x hx => ?_, (hev e he).2.2.2.1, (hev e he).2.2.2.2⟩
  · rwa [deafBehind_idle (fun e he => ⟨(hev e he).2.1, (hev e he).2.2.1⟩)] at this
  · rcases (hev e he).1 x hx with h1 | ⟨h1, h2⟩
    · exact .inl h1
    · exact .inr ⟨h1, fun hw => not_rd h (h2 hw)⟩

/-- The library's bookkeeping, by the starter. -/
theorem tf_book (h : Com P ty κ j gs w t D So qo st) (hl : st.tag ≠ .law) {fn : FuncId} {pos : String} {es : Array Event} {d' : Nat} (hd : deafBehind st.d es = d') (hev : ∀ e ∈ es, Bk st.wg e) :
    TF κ j w.heap.size st.grp (RdF κ j D So) d' (fun x => (D x).deaf) (aOf st) (fun x => (D x).stage ≤ 6) (t ++ MemOp.ofEvents 0 fn pos es) := by
  obtain ⟨hg, hlt⟩ := h.grp hl
  have := h.tf.main h.k1 h.apart (fn := fn) (pos := pos) (es := es) (Nat.le_refl _) fun e he => ?_
  · rwa [hd] at this
  · rcases hev e he with h1 | h1 | ⟨x, wr, rfl, hx⟩
    · exact ⟨fun x hx => (by rw [ofEvent_loc_mark h1] at hx; cases hx), fun x => (by rw [h1]; simp), by rw [ofEvent_loc_mark h1]; trivial⟩
    · exact ⟨fun x hx => (by rw [ofEvent_loc_mark h1] at hx; cases hx), fun x => (by rw [h1]; simp), by rw [ofEvent_loc_mark h1]; trivial⟩
    · refine ⟨fun y hy => ?_, by simp, by rw [ofEvent_cell]; show x.block < _; omega⟩
      simp only [ofEvent_cell, MemAct.touch?, Option.some.injEq] at hy
      subst hy
      exact .inl ⟨by show st.grp x.block; rw [hx]; exact hg, by simp⟩

theorem GM.world (h : GM ty st j D b w) (hw : w'.heap[st.wg]? = w.heap[st.wg]?) : GM ty st j D b w' := by
  obtain ⟨⟨s, m, h1, h2⟩, h3, h4⟩ := h
  exact ⟨⟨s, m, h1.of_block hw, h2⟩, h3, h4⟩

theorem chan_same (h : Com P ty κ j gs w t D So qo st) (hs : ∀ x, x < j → w'.heap[(D x).c]? = w.heap[(D x).c]?) : ∀ x, x < j → ChanAt w' (st.q (D x).c) (D x) := fun x hx => by
  obtain ⟨buf, s, r, h1, h2⟩ := h.chan x hx
  exact ⟨buf, s, r, (hs x hx).trans h1, h2⟩

/-- AN IDLE STEP OF THE STARTER's. -/
theorem idleMain (ha : gs[0]? = some a) (hcom : Com P ty κ j gs w t D So qo st) (hgm : st.tag ≠ .law → GM ty st j D b w) {es : Array Event} (hgo : stepG P true a w = .go a' w' es) (hD : DM st w w' es) (hcs' : CS P ty Post st N f' b a' w') (hf : f' < f) :
    ∃ m₁ ops μ', runT P (crowd gs w sl) 0 = (.next m₁, ops) ∧ Lt2 μ' (mu κ j D qo N f) ∧ Inv P ty Post μ' m₁ (t ++ ops) := by
  have hw : st.tag ≠ .law → w'.heap[st.wg]? = w.heap[st.wg]? := fun hl => hD.keep _ (hcom.grp hl).2 fun hm => hcom.gm _ hm (hcom.grp hl).1
  refine mainGo ha hcom hgo hcs' (hcom.main (by simp) (gs_main hcom _ _ _) rfl rfl rfl rfl rfl Iff.rfl (fun _ => .inl) hD.size (fun x hx _ hm _ => hD.keep x hx hm) (fun hl => live_of (hw hl)) (chan_same hcom fun x hx => hD.keep _ (hcom.clt hx) (hcom.cm hx)) (tf_main hcom hD.size hD.evs) fun x h1 hx => ?_)
    (fun hl => (hgm hl).world (hw hl)) (.inr ⟨rfl, hf⟩)
  exact Deaf_other t (g' := 0) (by omega) _ g_of_ofEvents

/-- A STEP OF THE LIBRARY's BOOKKEEPING, BY THE STARTER: at most the group's block turns. -/
theorem bookMain (ha : gs[0]? = some a) (hcom : Com P ty κ j gs w t D So qo st) (hl : st.tag ≠ .law) {es : Array Event} (hgo : stepG P true a w = .go a' w' es) (hAs : Aside st.wg w w') (hev : ∀ e ∈ es, Bk st.wg e) {tag' : MTag} {d' bd' : Nat} (ht : tag' ≠ .law) (hd : deafBehind st.d es = d')
    (hcs' : CS P ty Post { st with tag := tag', d := d', bd := bd' } N' f' b' a' w') (hgm' : GM ty { st with tag := tag', d := d', bd := bd' } j D b' w') (hlt : N' < N ∨ (N' = N ∧ f' < f)) :
    ∃ m₁ ops μ', runT P (crowd gs w sl) 0 = (.next m₁, ops) ∧ Lt2 μ' (mu κ j D qo N f) ∧ Inv P ty Post μ' m₁ (t ++ ops) := by
  have hlv : WgLive ty st.wg w' := by obtain ⟨⟨s, m, h1, _⟩, _⟩ := hgm'; exact ⟨s, m, h1⟩
  refine mainGo ha hcom hgo hcs' (hcom.main (by simp) (gs_main hcom _ _ _) rfl rfl rfl rfl rfl ⟨fun e => absurd e ht, fun e => absurd e hl⟩ (fun _ => .inl) (Nat.le_of_eq hAs.size.symm) (fun x hx hx2 _ _ => hAs.block x hx2) (fun _ _ => hlv)
    (show ∀ x, x < j → ChanAt w' (st.q (D x).c) (D x) from chan_same hcom fun x hx => hAs.block _ (by have := (hcom.cmay x hx).2.1; omega)) (by rw [hAs.size]; exact tf_book hcom hl hd hev) fun x h1 hx => ?_) (fun _ => hgm') hlt
  exact Deaf_other t (g' := 0) (by omega) _ g_of_ofEvents
end

end Go.Proofs.YtiodikflmijhkaaGreatDoor.Farm
end

section
set_option linter.unusedSectionVars false
set_option linter.unusedVariables false
namespace Go.Proofs.YtiodikflmijhkaaGreatDoor.Farm
open Go.Conc Go.ConcN
open Go.ConcR (KK wgBlock WgAt stA smA rd wr mk Payload Aside2 DC0 Bk g_of_ofEvents loc_of_ofEvent ofEvent_loc_mark again_blocked bk_of_mute ofEvent_cell ofEvent_mk)
variable [Payload]

section
variable {P : Program} {ty : TypeId} {Post : MSt → Goroutine → World → Prop} {κ j : Nat} {gs : Array Goroutine} {w w' : World} {sl : Option (Nat × Nat)} {t : Trace} {D : Nat → KD} {So : Nat → Nat → Prop} {qo : Nat → Nat} {st st' : MSt} {N N' f f' : Nat} {b b' : Bool} {a a' : Goroutine}

theorem CS.pos (h : CS P ty Post st N f b a w) : 0 < N := by cases h <;> omega

/-- It opens a group. -/
theorem wgStep (ha : gs[0]? = some a) (hcom : Com P ty κ j gs w t D So qo st) {g' : Goroutine} {Z may : Nat → Prop} (hl : st.tag = .law) (hbdm : True) (hgo : stepG P true a w = .go g' (w.alloc (wgBlock ty 0 0)) #[]) (hM : ∀ x, st.zone x ∨ w.heap.size ≤ x → Z x) (hm : ∀ x, may x → st.may x ∧ x < w.heap.size)
    (hK : Sc P ty Post N { st with tag := .opn false, wg := w.heap.size, bd := 0, grp := fun x => st.grp x ∨ x = w.heap.size, may := may, zone := Z, chs := fun _ => False } g' (w.alloc (wgBlock ty 0 0))) :
    ∃ m₁ ops μ', runT P (crowd gs w sl) 0 = (.next m₁, ops) ∧ Lt2 μ' (mu κ j D qo (N + 1) f) ∧ Inv P ty Post μ' m₁ (t ++ ops) := by
  obtain ⟨m, hcs'⟩ := sc_pos hK
  have hj := hcom.lawj hl
  subst hj
  have sz : (w.alloc (wgBlock ty 0 0)).heap.size = w.heap.size + 1 := by simp
  have eo : MemOp.ofEvents 0 a.frame.fn a.frame.place #[] = #[] := rfl
  refine mainGo (st' := { st with tag := .opn false, wg := w.heap.size, bd := 0, grp := fun x => st.grp x ∨ x = w.heap.size, may := may, zone := Z, chs := fun _ => False }) (b' := false) ha hcom hgo hcs' ?_ (fun _ => ?_) (.inl (Nat.lt_succ_self _))
  · rw [eo, Array.append_empty]
    refine ⟨by simp [hcom.size], hcom.k1, hcom.gsz, hcom.j1, fun i hi => by omega, fun x h1 hx => ?_, ?_, fun i hi => by omega, fun k hk x hx => ?_, fun i hi => by omega, fun i hi => by omega, fun i _ hi => by omega, fun i hi => by omega, fun i hi => by omega, fun i _ hi => by omega, fun i hi => by omega, fun _ _ h => h.elim, fun e => (by cases e), fun _ => ⟨.inr rfl, by rw [sz]; exact Nat.lt_succ_self _⟩, fun x hx => ?_, fun x hx => ?_, fun _ x hx => hM _ (.inr hx), fun _ x hx => ?_⟩
    · obtain ⟨g, hg, hq⟩ := hcom.old x h1 hx
      exact ⟨g, (gs_main hcom _ _ _ x h1).trans hg, hq⟩
    · have h1 := hcom.tf.alloc (grp' := fun x => st.grp x ∨ x = w.heap.size) (Rd' := RdF κ 0 D So) (B' := (w.alloc (wgBlock ty 0 0)).heap.size) (fun _ => .inl) (fun x hx => hx.imp id fun e => Nat.le_of_eq e.symm) (fun _ _ => id) (fun _ _ => .inl) (by rw [sz]; omega)
      exact ⟨h1.ct, h1.low, h1.deaf0, h1.deafW, ⟨t.size, Nat.le_refl _, fun x _ i hi => by simp [Trace.act?, Array.getElem?_eq_none hi], fun i hi => by omega⟩, h1.over⟩
    · obtain ⟨a1, a2, a3, a4⟩ := hcom.so k hk x hx
      exact ⟨hM _ (.inl a1), fun h => a2 (hm x h).1, fun h => h.elim a3 fun e => by omega, by rw [sz]; omega⟩
    · exact fun h => h.elim (hcom.gm x (hm x hx).1) fun e => by have := (hm x hx).2; omega
    · rw [sz]
      rcases hx with h | rfl
      · have := hcom.glt x h; omega
      · omega
    · rw [sz]; have := (hm x hx).2; omega
  · refine ⟨⟨0, 0, heap_alloc_new w _, ?_⟩, fun p hp => ?_, trivial⟩
    · have := ConcN.Mode.opn (j := 0) (D := D7 D) (tag := CTag.kd) trivial (fun i hi => by omega) (by simp)
      simpa [Vc, sumTo, pend, tgOf] using this
    · cases hp; simp [Vc, sumTo]

set_option maxHeartbeats 1600000 in
/-- It makes a channel. -/
theorem newcStep (ha : gs[0]? = some a) (hcom : Com P ty κ j gs w t D So qo st) (hgm : GM ty st j D b w) {g' : Goroutine} {o : Obj} (htag : st.tag = .opn false) (hgo : stepG P true a w = .go g' (w.alloc o) #[])
    (hK : Sc P ty Post N { st with grp := fun x => st.grp x ∨ x = w.heap.size } g' (w.alloc o)) :
    ∃ m₁ ops μ', runT P (crowd gs w sl) 0 = (.next m₁, ops) ∧ Lt2 μ' (mu κ j D qo (N + 1) f) ∧ Inv P ty Post μ' m₁ (t ++ ops) := by
  have hl : st.tag ≠ .law := by rw [htag]; simp
  obtain ⟨m, hcs'⟩ := sc_pos hK
  have hsame : ∀ x, x < w.heap.size → (w.alloc o).heap[x]? = w.heap[x]? := fun x hx => heap_alloc_ne _ _ hx
  have sz : (w.alloc o).heap.size = w.heap.size + 1 := by simp
  have eo : MemOp.ofEvents 0 a.frame.fn a.frame.place #[] = #[] := rfl
  have hw := hsame st.wg (hcom.grp hl).2
  have hg := hgm.world (w' := w.alloc o) hw
  refine mainGo (st' := { st with grp := fun x => st.grp x ∨ x = w.heap.size }) (b' := false) ha hcom hgo hcs' ?_ (fun _ => ⟨?_, hg.bd, hg.bdm⟩) (.inl (Nat.lt_succ_self _))
  · rw [eo, Array.append_empty]
    refine ⟨by simp [hcom.size], hcom.k1, hcom.gsz, hcom.j1, fun i hi => ?_, fun x h1 hx => ?_, ?_, fun i hi x hx => ?_, fun k hk x hx => ?_, hcom.os, hcom.ow, hcom.oo, fun i hi => ?_, hcom.shut, hcom.cne, fun i hi => ?_, hcom.chs, fun e => absurd e hl, fun _ => ⟨.inl (hcom.grp hl).1, by rw [sz]; exact Nat.lt_succ_of_lt (hcom.grp hl).2⟩, fun x hx => ?_, fun x hx => ?_, hcom.zn, fun _ x hx => ?_⟩
    · obtain ⟨g, hg, hks⟩ := hcom.wk i hi
      exact ⟨g, (gs_main hcom _ _ _ _ (by have := hcom.k1; omega)).trans hg, hks.rely (hcom.os i hi) ⟨by rw [sz]; omega, fun x hx => hsame x (hcom.sw i hi x hx).2.2.2.1, live_of hw⟩⟩
    · obtain ⟨g, hg, hq⟩ := hcom.old x h1 hx
      exact ⟨g, (gs_main hcom _ _ _ x h1).trans hg, hq⟩
    · have ea : aOf { st with grp := fun x => st.grp x ∨ x = w.heap.size } = aOf st := rfl
      rw [ea]
      exact hcom.tf.alloc (fun _ => .inl) (fun x hx => hx.imp id fun e => Nat.le_of_eq e.symm) (fun _ _ => id) (fun _ _ => .inl) (by rw [sz]; omega)
    · obtain ⟨a1, a2, a3, a4, cs, t, f, a5⟩ := hcom.sw i hi x hx
      exact ⟨a1, a2, fun h => h.elim a3 fun e => by omega, by rw [sz]; omega, cs, t, f, (hsame x a4).trans a5⟩
    · obtain ⟨a1, a2, a3, a4⟩ := hcom.so k hk x hx
      exact ⟨a1, a2, fun h => h.elim a3 fun e => by omega, by rw [sz]; omega⟩
    · exact chan_same hcom (fun x hx => hsame _ (hcom.clt hx)) i hi
    · obtain ⟨a1, a2, a3⟩ := hcom.cmay i hi
      exact ⟨.inl a1, a2, a3⟩
    · exact fun h => h.elim (hcom.gm x hx) fun e => by have := hcom.mlt hl x hx; omega
    · rw [sz]
      rcases hx with h | rfl
      · have := hcom.glt x h; omega
      · omega
    · rw [sz]; have := hcom.mlt hl x hx; omega
  · obtain ⟨sv, mv, h1, h2⟩ := hg.mode
    have e : tgOf st.tag b = tgOf st.tag false := by rw [htag]; cases b <;> rfl
    rw [e] at h2
    exact ⟨sv, mv, h1, h2⟩

theorem TF_congr {B : Nat} {grp : Nat → Prop} {Rd Rd' : Nat → Loc → Prop} {d0 : Nat} {dw : Nat → Nat} {a0 : Option Addr} {rl : Nat → Prop} (h : TF κ j B grp Rd d0 dw a0 rl t) (hr : ∀ k, 1 ≤ k → k ≤ κ + j - 1 → ∀ l, Rd' k l ↔ Rd k l) : TF κ j B grp Rd' d0 dw a0 rl t :=
  ⟨CT.congr h.ct hr, h.low, h.deaf0, h.deafW, h.gr, h.over⟩

set_option maxHeartbeats 1600000 in
/-- It starts a worker. -/
theorem goStep (ha : gs[0]? = some a) (hcom : Com P ty κ j gs w t D So qo st) (hgm : GM ty st j D b w) {g' child : Goroutine} {S : Nat → Prop} {c Nw : Nat} {vs : List Value} {may : Nat → Prop} (htag : st.tag = .opn true) (hd : st.d = 0) (hgo : stepG P true a w = .spawn g' child w #[]) (hm : ∀ x, may x → st.may x)
    (hS : ∀ x, S x → st.zone x ∧ ¬ may x ∧ ¬ st.grp x ∧ (x < st.wg ∨ st.may x) ∧ ∃ cs t f, w.heap[x]? = some (.cells cs t f)) (hc : w.heap[c]? = some (.chan 6 #[] false 0 0 false)) (hcm : st.grp c) (hcc : ¬ st.chs c) (hcw : st.wg < c) (hvs : vs.length ≤ 6) (hNw : Nw ≤ 10) (hgs : st.gs < 1000)
    (hwk : Wk P ty st.wg c Nw (fun _ => False) S vs child w) (hK : Sc P ty Post N { st with tag := .opn false, gs := st.gs + 1, may := may, chs := fun x => st.chs x ∨ x = c, q := upd st.q c vs } g' w) :
    ∃ m₁ ops μ', runT P (crowd gs w sl) 0 = (.next m₁, ops) ∧ Lt2 μ' (mu κ j D qo (N + 1) f) ∧ Inv P ty Post μ' m₁ (t ++ ops) := by
  have hl : st.tag ≠ .law := by rw [htag]; simp
  obtain ⟨m, hcs'⟩ := sc_pos hK
  have hk1 := hcom.k1
  cases Nw with
  | zero => exact hwk.elim
  | succ Nw =>
  obtain ⟨mw, hwk⟩ := hwk
  obtain ⟨d', hd'⟩ : ∃ d' : KD, d' = ⟨8 + Nw, mw, 0, S, fun _ => False, c, vs⟩ := ⟨_, rfl⟩
  have hrun := runT_crowd_spawn (P := P) (sl := sl) (i := 0) ha (by simpa using hgo)
  have eo : MemOp.ofEvents 0 a.frame.fn a.frame.place #[] = #[] := rfl
  rw [eo, hcom.size] at hrun
  obtain ⟨x, hx⟩ : ∃ x : MemOp, x = { g := 0, fn := a.frame.fn, pos := a.frame.place, act := .go (κ + j) } := ⟨_, rfl⟩
  obtain ⟨y, hy⟩ : ∃ y : MemOp, y = { g := κ + j, fn := child.frame.fn, pos := a.frame.place, act := .start } := ⟨_, rfl⟩
  rw [← hx, ← hy] at hrun
  rw [show ((#[] : Array MemOp).push x).push y = #[x, y] from rfl] at hrun
  have g0 : ∀ z, 1 ≤ z → z < κ + j → ((gs.setIfInBounds 0 g').push child)[z]? = gs[z]? := fun z h1 h2 => by
    rw [Array.getElem?_push_lt (by simp [hcom.size]; omega), ← Array.getElem?_eq_getElem, Array.getElem?_setIfInBounds_ne (by omega)]
  have gj : ((gs.setIfInBounds 0 g').push child)[κ + j]? = some child := by
    rw [show κ + j = (gs.setIfInBounds 0 g').size by simp [hcom.size], Array.getElem?_push_size]
  have hst : ∀ op ∈ #[x, y], op.act ≠ .mark .disable ∧ op.act ≠ .mark .enable := by
    intro op hop
    have : op = x ∨ op = y := by simpa using hop
    rcases this with rfl | rfl
    · rw [hx]; exact ⟨by simp, by simp⟩
    · rw [hy]; exact ⟨by simp, by simp⟩
  have en : ∀ i, i < j → (upd D j d') i = D i := fun i hi => upd_ne D _ (by omega)
  have ne' : ∀ i, i < j → (D i).c ≠ c := fun i hi e => hcc (e ▸ (hcom.cmay i hi).2.2)
  have nS : ∀ i, i < j → ∀ z, (D i).O z → ¬ S z := fun i hi z ho hs => by
    rcases (hS z hs).2.2.2.1 with h1 | h1
    · have := hcom.ow i hi z ho; omega
    · exact (hcom.sw i hi z (hcom.os i hi z ho)).2.1 h1
  obtain ⟨⟨sv, mv, hwg, hmode⟩, hbd, hbdm⟩ := hgm
  have hVj := Vc_le j (D7 D)
  refine ⟨_, _, mu κ (j + 1) (upd D j d') qo N (m + 1), hrun, ?_, _, w, sl, κ, j + 1, upd D j d', So, qo, _, N, m + 1, false, g', rfl, ?_, hcs', ?_, fun _ => ?_, rfl⟩
  · refine Prod.Lex.left _ _ ?_
    have e2 : sumTo (j + 1) (fun i => (upd D j d' i).stage) = sumTo j (fun i => (D i).stage) + (8 + Nw) := by
      simp only [sumTo, upd_same]
      rw [sumTo_upd_out D _ KD.stage (Nat.le_refl _), hd']
    rw [e2]
    omega
  · rw [Array.getElem?_push_lt (by simp [hcom.size]; omega), ← Array.getElem?_eq_getElem, Array.getElem?_setIfInBounds_self_of_lt (by rw [hcom.size]; omega)]
  · refine ⟨by simp [hcom.size]; omega, hk1, by show st.gs + 1 = _; rw [hcom.gsz]; omega, by have := hcom.gsz; omega, fun i hi => ?_, fun z h1 hz => ?_, ?_, fun i hi z hz => ?_, fun k hk z hz => ?_, fun i hi z hz => ?_, fun i hi z hz => ?_, fun i i' hi hi' e z ho hs => ?_, fun i hi => ?_, fun i hi h7 => ?_, fun i i' hi hi' e => ?_, fun i hi => ?_, fun z _ hz => ?_, fun e => (by cases e), fun _ => hcom.grp hl, fun z hz => hcom.gm z (hm z hz), hcom.glt, fun _ => hcom.zn hl, fun _ z hz => hcom.mlt hl z (hm z hz)⟩
    · rcases Nat.lt_or_ge i j with hlt | hge
      · obtain ⟨g, hg, hk⟩ := hcom.wk i hlt
        exact ⟨g, (g0 _ (by omega) (by omega)).trans hg, by rw [en i hlt]; exact hk⟩
      · obtain rfl : i = j := by omega
        exact ⟨child, gj, by rw [upd_same, hd']; exact .scr (by omega) hwk⟩
    · obtain ⟨g, hg, hq⟩ := hcom.old z h1 hz
      exact ⟨g, (g0 z h1 (by omega)).trans hg, by rw [Deaf_still _ _ _ hst]; exact hq⟩
    · have h1 := TF_congr (Rd' := RdF κ (j + 1) (upd D j d') So) hcom.tf fun k k1 kj l => ?_
      · show TF κ (j + 1) w.heap.size st.grp _ st.d _ (aOf _) _ _
        have ea : aOf { st with tag := .opn false, gs := st.gs + 1, may := may, chs := fun x => st.chs x ∨ x = c, q := upd st.q c vs } = aOf st := by rw [aOf_some (by simp), aOf_some hl]
        rw [ea, hd]
        rw [hd] at h1
        have h2 := h1.fork hk1 (fun k l hl' => ?_) (x := x) (y := y) (by rw [hx]; exact ⟨rfl, rfl⟩) (by rw [hy]; exact ⟨rfl, rfl⟩) (rl' := fun i => (upd D j d' i).stage ≤ 6) (fun i hi h => by rw [en i hi] at h; exact h) (by rw [upd_same, hd']; simp; omega)
        · have e0 : (fun i => (upd D j d' i).deaf) = upd (fun i => (D i).deaf) j 0 := by rw [deaf_upd, hd']
          rw [e0]
          exact h2
        · obtain ⟨z, rfl, ⟨h1, h2⟩ | ⟨h1, h2, h3⟩⟩ := hl'
          · exact (hcom.so k h1 _ h2).2.2.1
          · rcases Nat.lt_or_ge (k - κ) j with hlt | hge
            · rw [en _ hlt] at h3; exact (hcom.sw _ hlt _ h3).2.2.1
            · rw [show k - κ = j by omega, upd_same, hd'] at h3; exact (hS _ h3).2.2.1
      · constructor
        · rintro ⟨z, rfl, ⟨h1, h2⟩ | ⟨h1, h2, h3⟩⟩
          · exact ⟨z, rfl, .inl ⟨h1, h2⟩⟩
          · rw [en _ (by omega)] at h3
            exact ⟨z, rfl, .inr ⟨h1, by omega, h3⟩⟩
        · rintro ⟨z, rfl, ⟨h1, h2⟩ | ⟨h1, h2, h3⟩⟩
          · exact ⟨z, rfl, .inl ⟨h1, h2⟩⟩
          · exact ⟨z, rfl, .inr ⟨h1, by omega, by rw [en _ (by omega)]; exact h3⟩⟩
    · rcases Nat.lt_or_ge i j with hlt | hge
      · rw [en i hlt] at hz
        obtain ⟨a1, a2, a3, a4, a5⟩ := hcom.sw i hlt z hz
        exact ⟨a1, fun h => a2 (hm z h), a3, a4, a5⟩
      · obtain rfl : i = j := by omega
        rw [upd_same, hd'] at hz
        obtain ⟨a1, a2, a3, _, cs, t', f', a5⟩ := hS z hz
        exact ⟨a1, a2, a3, (Array.getElem?_eq_some_iff.1 a5).1, cs, t', f', a5⟩
    · obtain ⟨a1, a2, a3, a4⟩ := hcom.so k hk z hz
      exact ⟨a1, fun h => a2 (hm z h), a3, a4⟩
    · rcases Nat.lt_or_ge i j with hlt | hge
      · rw [en i hlt] at hz ⊢; exact hcom.os i hlt z hz
      · obtain rfl : i = j := by omega
        rw [upd_same, hd'] at hz; exact hz.elim
    · rcases Nat.lt_or_ge i j with hlt | hge
      · rw [en i hlt] at hz; exact hcom.ow i hlt z hz
      · obtain rfl : i = j := by omega
        rw [upd_same, hd'] at hz; exact hz.elim
    · rcases Nat.lt_or_ge i j with hlt | hge
      · rw [en i hlt] at ho
        rcases Nat.lt_or_ge i' j with hlt' | hge'
        · rw [en i' hlt'] at hs; exact hcom.oo i i' hlt hlt' e z ho hs
        · obtain rfl : i' = j := by omega
          rw [upd_same, hd'] at hs; exact nS i hlt z ho hs
      · obtain rfl : i = j := by omega
        rw [upd_same, hd'] at ho; exact ho.elim
    · rcases Nat.lt_or_ge i j with hlt | hge
      · rw [en i hlt]
        show ChanAt w (upd st.q c vs (D i).c) (D i)
        rw [upd_ne _ _ (ne' i hlt)]
        exact hcom.chan i hlt
      · obtain rfl : i = j := by omega
        rw [upd_same, hd']
        show ChanAt w (upd st.q c vs c) _
        rw [upd_same]
        have e0 : decide (8 + Nw ≤ 7) = false := decide_eq_false (by omega)
        exact ⟨#[], 0, 0, by simp only [e0]; exact hc, rfl, hvs⟩
    · rcases Nat.lt_or_ge i j with hlt | hge
      · rw [en i hlt] at h7 ⊢; exact hcom.shut i hlt h7
      · obtain rfl : i = j := by omega
        rw [upd_same, hd'] at h7; simp at h7; omega
    · rcases Nat.lt_or_ge i j with hlt | hge <;> rcases Nat.lt_or_ge i' j with hlt' | hge'
      · rw [en i hlt, en i' hlt'] at e; exact hcom.cne i i' hlt hlt' e
      · obtain rfl : i' = j := by omega
        rw [en i hlt, upd_same, hd'] at e; exact absurd e (ne' i hlt)
      · obtain rfl : i = j := by omega
        rw [en i' hlt', upd_same, hd'] at e; exact absurd e.symm (ne' i' hlt')
      · omega
    · rcases Nat.lt_or_ge i j with hlt | hge
      · rw [en i hlt]
        obtain ⟨a1, a2, a3⟩ := hcom.cmay i hlt
        exact ⟨a1, a2, .inl a3⟩
      · obtain rfl : i = j := by omega
        rw [upd_same, hd']
        exact ⟨hcm, hcw, .inr rfl⟩
    · rcases hz with h | rfl
      · obtain ⟨i, hi, e⟩ := hcom.chs z hl h
        exact ⟨i, by omega, by rw [en i hi]; exact e⟩
      · exact ⟨j, by omega, by rw [upd_same, hd']⟩
  · have htg : tgOf st.tag b = .sp 0 3 := by rw [htag]; rfl
    rw [htg] at hmode
    obtain ⟨ho, rfl, rfl, _⟩ := hmode.open_inv trivial
    have e8 : D7 (upd D j d') = upd (D7 D) j ⟨7, 0, 0⟩ := by rw [D7_upd, hd']; simp only [show min (8 + Nw) 7 = 7 by omega]
    have eV : Vc (j + 1) (D7 (upd D j d')) = Vc j (D7 D) + 1 := by
      rw [e8]
      simp only [Vc, sumTo, upd_same]
      rw [sumTo_upd_out (D7 D) _ cnt (Nat.le_refl _)]; rfl
    have hp : pend (.sp 0 3) = 1 := rfl
    have hb1 := hbd true htag
    refine ⟨⟨_, 0, hwg, ?_⟩, fun p hp' => ?_, hbdm⟩
    · have := ConcN.Mode.opn (j := j + 1) (D := D7 (upd D j d')) (tag := CTag.kd) trivial (fun i hi => ?_) (by simp)
      · rw [eV] at this
        simpa [pend, tgOf] using this
      · rw [e8]
        rcases Nat.lt_or_ge i j with hlt | hge
        · rw [upd_ne (D7 D) _ (by omega)]; exact ho i hlt
        · obtain rfl : i = j := by omega
          rw [upd_same]; simp
    · cases hp'
      rw [eV]
      simp at hb1 ⊢
      exact hb1

set_option maxHeartbeats 1600000 in
/-- It receives. -/
theorem recvStep (ha : gs[0]? = some a) (hcom : Com P ty κ j gs w t D So qo st) (hgm : GM ty st j D b w) {c : Nat} {z : Value} {g₂ : Goroutine} (htag : st.tag = .opn false) (hd : st.d = 0) (hchs : st.chs c) (hR : RecvAt P ty (Sc P ty Post N) st c z a g₂ w) (hf : 0 < f) :
    ∃ m₁ ops μ', runT P (crowd gs w sl) 0 = (.next m₁, ops) ∧ Lt2 μ' (mu κ j D qo (N + 1) f) ∧ Inv P ty Post μ' m₁ (t ++ ops) := by
  have hl : st.tag ≠ .law := by rw [htag]; simp
  have hk1 := hcom.k1
  obtain ⟨es, hgo, hev⟩ := hR.step w (ROf.refl ty st w)
  obtain ⟨i, hi, rfl⟩ := hcom.chs c hl hchs
  obtain ⟨buf, s, r, h1, h2, h3⟩ := hcom.chan i hi
  have hclt := hcom.clt hi
  have hgo' : stepG P ((0 : Nat) == 0) a w = .comm g₂ #[rcase (D i).c z] true (.recv true) w es := hgo
  have hpar : partners (gs.setIfInBounds 0 ph) (D i).c true = [] := partners_nil fun x y hy => by
    rcases getElem?_stand gs 0 x y hy with ⟨_, rfl⟩ | ⟨hx, hy'⟩
    · exact offersAt_ph _ _
    · exact offers_worker hcom (by omega) hy' _ _
  have others : ∀ (y : Goroutine) x, 1 ≤ x → (gs.setIfInBounds 0 y)[x]? = gs[x]? := fun y x hx => Array.getElem?_setIfInBounds_ne (by omega)
  have g0 : ∀ y : Goroutine, (gs.setIfInBounds 0 y)[0]? = some y := fun y => Array.getElem?_setIfInBounds_self_of_lt (by rw [hcom.size]; omega)
  have tf0 := tf_main (w' := w) (fn := a.frame.fn) (pos := a.frame.place) hcom (Nat.le_refl _) hev
  -- the flag says nothing here
  have hgmf : ∀ b', GM ty st j D b' w := fun b' => by
    obtain ⟨⟨s0, m0, p1, p2⟩, p3, p4⟩ := hgm
    refine ⟨⟨s0, m0, p1, ?_⟩, p3, p4⟩
    rw [htag] at p2 ⊢
    exact p2
  have fin : ∀ (u : Trace) (w' : World) (q' : Nat → List Value) (a' : Goroutine) (N' f' : Nat), CS P ty Post { st with q := q' } N' f' false a' w' → (N' < N + 1 ∨ (N' = N + 1 ∧ f' < f)) → w'.heap.size = w.heap.size → (∀ x, x ≠ (D i).c → w'.heap[x]? = w.heap[x]?) → (∀ x, x < j → ChanAt w' (q' (D x).c) (D x)) →
      (∀ op ∈ u, op.g ≤ κ + j - 1) → (∀ op ∈ u, op.act.touch? = none) → (∀ op ∈ u, op.act ≠ .mark .disable ∧ op.act ≠ .mark .enable ∧ ∀ x, op.act ≠ .mark (.release x)) →
      runT P (crowd gs w sl) 0 = (.next (crowd (gs.setIfInBounds 0 a') w' sl), MemOp.ofEvents 0 a.frame.fn a.frame.place es ++ u) →
      ∃ m₁ ops μ', runT P (crowd gs w sl) 0 = (.next m₁, ops) ∧ Lt2 μ' (mu κ j D qo (N + 1) f) ∧ Inv P ty Post μ' m₁ (t ++ ops) := by
    intro u w' q' a' N' f' hcs' hlt hsz hne hch u1 u2 u3 hrun
    refine ⟨_, _, mu κ j D qo N' f', hrun, ?_, _, w', sl, κ, j, D, So, qo, { st with q := q' }, N', f', false, a', rfl, g0 a', hcs', ?_, fun _ => ?_, rfl⟩
    · unfold mu
      rcases hlt with h | ⟨rfl, h⟩
      · exact Prod.Lex.left _ _ (by omega)
      · exact Prod.Lex.right _ (by omega)
    · refine hcom.main (by simp) (others a') rfl rfl rfl rfl rfl Iff.rfl (fun _ => .inl) (Nat.le_of_eq hsz.symm) (fun x _ _ _ hx => hne x (hx i hi)) (fun _ => live_of (hne _ (by have := (hcom.cmay i hi).2.1; omega))) hch ?_ (fun x h1 hx => ?_)
      · rw [hsz, ← Array.append_assoc]
        exact tf0.comm hk1 hcom.apart (Nat.le_refl _) u1 u2 u3
      · rw [← Array.append_assoc, Deaf_still _ _ u fun op hop => ⟨(u3 op hop).1, (u3 op hop).2.1⟩]
        exact Deaf_other t (g' := 0) (by omega) _ g_of_ofEvents
    · have := (hgmf false).world (w' := w') (hne _ (by have := (hcom.cmay i hi).2.1; omega))
      exact ⟨this.mode, this.bd, this.bdm⟩
  by_cases hbuf : buf = #[]
  · subst hbuf
    by_cases hcl : (D i).stage ≤ 7
    · -- CLOSED AND EMPTY
      rw [decide_eq_true hcl] at h1
      have hrun := crowd_recv_closed (P := P) (sl := sl) (i := 0) ha hgo' h1 hpar
      rw [finishComm_recv] at hrun
      have hq : st.q (D i).c = [] := by rw [h2, hcom.shut i hi hcl]; rfl
      obtain ⟨m, hcs'⟩ := sc_pos (hR.none hq)
      refine fin _ w st.q _ N (m + 1) hcs' (.inl (by omega)) rfl (fun _ _ => rfl) (fun x hx => hcom.chan x hx) ?_ ?_ ?_ hrun
      · intro op hop; simp at hop; subst hop; simp
      · intro op hop; simp at hop; subst hop; rfl
      · intro op hop; simp at hop; subst hop; simp
    · -- EMPTY AND OPEN: IT WAITS
      rw [decide_eq_false hcl] at h1
      have hrun := crowd_waits (P := P) (sl := sl) (i := 0) ha hgo' (fun cc hcc => by
        have : cc = rcase (D i).c z := by simpa using hcc
        subst this
        exact ways_recv_none h1 hpar)
      rw [← Array.append_empty (xs := MemOp.ofEvents 0 a.frame.fn a.frame.place es)] at hrun
      refine fin #[] w st.q _ (N + 1) 0 (.park htag hd hchs ⟨s, r, h1⟩ fun w₁ r₁ => hR.rely r₁) (.inr ⟨rfl, hf⟩) rfl (fun _ _ => rfl) (fun x hx => hcom.chan x hx) (by simp) (by simp) (by simp) hrun
  · -- OUT OF THE BUFFER
    have hpos : 0 < buf.size := Nat.pos_of_ne_zero fun e => hbuf (Array.eq_empty_of_size_eq_zero e)
    have hrun := crowd_recv_buf (P := P) (sl := sl) (i := 0) ha hgo' h1 hpos hpar
    rw [finishComm_recv] at hrun
    obtain ⟨v, rest, hb⟩ : ∃ v rest, buf.toList = v :: rest := by
      cases hh : buf.toList with
      | nil => exact absurd (by simpa using hh) hbuf
      | cons v rest => exact ⟨v, rest, rfl⟩
    have hv : buf.getD 0 undef = v := by
      have : buf = (v :: rest).toArray := by rw [← hb]
      rw [this]; simp
    have hx : (buf.extract 1 buf.size).toList = rest := by
      have : buf = (v :: rest).toArray := by rw [← hb]
      rw [this]; simp
    have hq : st.q (D i).c = v :: (rest ++ (D i).ss) := by rw [h2, hb]; rfl
    rw [hv] at hrun
    obtain ⟨m, hcs'⟩ := sc_pos (hR.some v _ hq)
    have hne : ∀ x, x ≠ (D i).c → (w.setChan (D i).c 6 (buf.extract 1 buf.size) (decide ((D i).stage ≤ 7)) s (r + 1) false).heap[x]? = w.heap[x]? := fun x hx => heap_setChan_ne' _ _ _ _ _ _ _ _ hx
    refine fin _ _ (upd st.q (D i).c (rest ++ (D i).ss)) _ N (m + 1) (hcs'.rely (by
      have := rof_chan hcom hi 6 (buf.extract 1 buf.size) (decide ((D i).stage ≤ 7)) s (r + 1) false
      exact this) fun c' z' g2' _ e => ?_) (.inl (by omega)) (size_setChan _ _ _ _ _ _ _ _) hne (fun x hx => ?_) ?_ ?_ ?_ hrun
    · have := congrArg Goroutine.status e
      cases this
    · by_cases e : x = i
      · subst e
        rw [upd_same]
        refine ⟨buf.extract 1 buf.size, s, r + 1, heap_setChan_at _ _ _ _ _ _ _ _ hclt, ?_, ?_⟩
        · rw [‹(buf.extract 1 buf.size).toList = rest›]
        · rw [hq] at h3; simp at h3 ⊢; omega
      · have ec : (D x).c ≠ (D i).c := fun e' => e (hcom.cne x i hx hi e')
        rw [upd_ne _ _ ec]
        obtain ⟨buf', s', r', p1, p2⟩ := hcom.chan x hx
        exact ⟨buf', s', r', (hne _ ec).trans p1, p2⟩
    · intro op hop; simp at hop; rcases hop with rfl | rfl <;> simp
    · intro op hop; simp at hop; rcases hop with rfl | rfl <;> rfl
    · intro op hop; simp at hop; rcases hop with rfl | rfl <;> simp
end

end Go.Proofs.YtiodikflmijhkaaGreatDoor.Farm
end
