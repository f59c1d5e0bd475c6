/- Joined texts: F5 F6. -/
import Derived.Test.YtiodikflmijhkaaGreatDoorJ16
import Derived.Below
import Derived.Laws.Rows
section
set_option linter.unusedSectionVars false
set_option linter.unusedVariables false
namespace Go.Proofs.YtiodikflmijhkaaGreatDoor.Farm
open Go.Conc Go.ConcN
open Go.ConcR (KK wgBlock WgAt stA smA rd wr mk Payload Aside2 DC0 Bk g_of_ofEvents loc_of_ofEvent ofEvent_loc_mark again_blocked bk_of_mute ofEvent_cell)
variable [Payload]

theorem heap_setChan_ne' (w : World) (c cap : Nat) (buf : Array Value) (cl : Bool) (s r : Nat) (tm : Bool) {b : Nat} (h : b ≠ c) : (w.setChan c cap buf cl s r tm).heap[b]? = w.heap[b]? := by
  simp [World.setChan, Array.getElem?_setIfInBounds_ne (Ne.symm h)]
theorem heap_setChan_at (w : World) (c cap : Nat) (buf : Array Value) (cl : Bool) (s r : Nat) (tm : Bool) (h : c < w.heap.size) : (w.setChan c cap buf cl s r tm).heap[c]? = some (.chan cap buf cl s r tm) := by
  simp [World.setChan, h]
theorem size_setChan (w : World) (c cap : Nat) (buf : Array Value) (cl : Bool) (s r : Nat) (tm : Bool) : (w.setChan c cap buf cl s r tm).heap.size = w.heap.size := by simp [World.setChan]
theorem live_of {ty : TypeId} {wg : Nat} {w w' : World} (h : w'.heap[wg]? = w.heap[wg]?) : WgLive ty wg w → WgLive ty wg w' := fun ⟨s, m, x⟩ => ⟨s, m, x.of_block h⟩
theorem heap_alloc_ne (w : World) (o : Obj) {b : Nat} (h : b < w.heap.size) : (w.alloc o).heap[b]? = w.heap[b]? :=
  Go.RowKit.Below.heap_alloc _ _ _ h
theorem evW_of_K {grp S : Nat → Prop} {wg : Option Addr} {B B' : Nat} (hB : B ≤ B') {e : Event} (h : EvK S B e) : EvW' grp wg (fun l => ∃ a, l = .cell a ∧ S a.block) B' e :=
  ⟨fun x hx => let ⟨a, h1, h2, h3⟩ := h.1 x hx; .inr ⟨⟨a, h1, h2⟩, h3⟩, fun y _ => h.2.2.2.1 y, tlow_of_low (MemAct.low_mono hB h.2.2.2.2)⟩
theorem deaf_of_K {S : Nat → Prop} {B : Nat} {es : Array Event} (h : ∀ e ∈ es, EvK S B e) (d : Nat) : deafBehind d es = d := deafBehind_idle (fun e he => ⟨(h e he).2.1, (h e he).2.2.1⟩) d

section
variable {P : Program} {ty : TypeId} {Post : MSt → Goroutine → World → Prop} {κ j : Nat} {gs : Array Goroutine} {w w' : World} {sl : Option (Nat × Nat)} {t : Trace} {D : Nat → KD} {So : Nat → Nat → Prop} {qo : Nat → Nat} {st : MSt} {N f : Nat} {b : Bool} {a : Goroutine}

theorem tg_retag {b b' : Bool} (tag : MTag) (h : b' = b ∨ (b = true ∧ b' = false)) : tgOf tag b' = tgOf tag b ∨ (tgOf tag b = .blk ∧ tgOf tag b' = .w3) := by
  rcases h with rfl | ⟨rfl, rfl⟩
  · exact .inl rfl
  · cases tag with
    | opn p => cases p <;> exact .inl rfl
    | w3 => exact .inr ⟨rfl, rfl⟩
    | _ => exact .inl rfl

/-- A step that leaves whom it counts. -/
theorem GM.keep (h : GM ty st j D b w) {i : Nat} (hi : i < j) {d' : KD} (h1 : min d'.stage 7 = min (D i).stage 7) (hw : w'.heap[st.wg]? = w.heap[st.wg]?) {b' : Bool} (hb : b' = b ∨ (b = true ∧ b' = false)) : GM ty st j (upd D i d') b' w' := by
  obtain ⟨⟨s, m, hwg, hm⟩, h2, h3⟩ := h
  have e : ∀ x, x < j → (D7 (upd D i d') x).stage = (D7 D x).stage := fun x _ => by
    by_cases e : x = i
    · subst e; simp only [D7, upd_same, h1]
    · simp only [D7, upd_ne D _ e]
  have hv : Vc j (D7 (upd D i d')) = Vc j (D7 D) := sumTo_congr fun x hx => by simp only [cnt, e x hx]
  exact ⟨⟨s, m, hwg.of_block hw, (hm.congr e).retag (tg_retag st.tag hb)⟩, fun p hp => by rw [hv]; exact h2 p hp, h3⟩

theorem rof_of (h : Com P ty κ j gs w t D So qo st) (hl : st.tag ≠ .law) (h1 : w'.tape = w.tape) (h2 : w'.os = w.os) (h3 : w'.output = w.output) (hsz : w.heap.size ≤ w'.heap.size) {X : Nat → Prop} (hX : ∀ x, X x → ¬ st.mr x ∧ st.wg ≤ x)
    (hs : ∀ x, x < w.heap.size → ¬ X x → w'.heap[x]? = w.heap[x]?) (hlive : WgLive ty st.wg w → WgLive ty st.wg w') : ROf ty st w w' :=
  ⟨fun e => absurd e hl, fun _ => ⟨h1, h2, h3, hsz, fun x hx => hs x (hx.elim (h.mlt hl x) fun y => h.glt x y.1) fun hc => (hX x hc).1 hx, fun x hx => hs x (Nat.lt_trans hx (h.grp hl).2) fun hc => by have := (hX x hc).2; omega, hlive⟩⟩

theorem Com.clt (h : Com P ty κ j gs w t D So qo st) {i : Nat} (hi : i < j) : (D i).c < w.heap.size := by
  obtain ⟨buf, s, r, hc, _⟩ := h.chan i hi
  exact (Array.getElem?_eq_some_iff.1 hc).1

theorem offers_worker (h : Com P ty κ j gs w t D So qo st) {x : Nat} {g : Goroutine} (hx : 1 ≤ x) (hg : gs[x]? = some g) (r : Nat) (sd : Bool) : offersAt g r sd = [] := by
  apply offersAt_of_not_blocked
  intro hb
  have hlt := (Array.getElem?_eq_some_iff.1 hg).1
  rcases Nat.lt_or_ge x κ with h1 | h1
  · obtain ⟨y, hy, hq⟩ := h.old x hx h1
    rw [hg] at hy; cases hy
    rcases hq.status with e | e <;> rw [e] at hb <;> cases hb
  · rw [h.size] at hlt
    obtain ⟨y, hy, hk⟩ := h.wk (x - κ) (by omega)
    rw [show κ + (x - κ) = x by omega, hg] at hy; cases hy
    rcases hk.status with e | e <;> rw [e] at hb <;> cases hb

set_option maxHeartbeats 1600000 in
/-- AN IDLE STEP OF A WORKER's IN ITS SCRIPT, and a new block. -/
theorem scrGo (ha : gs[0]? = some a) (hcs : CS P ty Post st N f b a w) (hcom : Com P ty κ j gs w t D So qo st) (hgm : GM ty st j D b w) {i : Nat} (hi : i < j) {g g' : Goroutine} {es : Array Event} {d' : KD}
    (hg : gs[κ + i]? = some g) (hgo : stepG P false g w = .go g' w' es) (hk : KS P ty st.wg d' g' w') (hc : d'.c = (D i).c) (hss : d'.ss = (D i).ss) (h8 : 8 ≤ (D i).stage) (h8' : 8 ≤ d'.stage)
    (hw : (∃ d, w' = w.at d) ∨ ∃ cs t, w' = w.alloc (.cells cs t))
    (hS : d'.S = (D i).S ∨ (d'.S = fun x => (D i).S x ∨ x = w.heap.size) ∧ ∃ cs t, w' = w.alloc (.cells cs t)) (hO : ∀ x, d'.O x → d'.S x ∧ ((D i).O x ∨ x = w.heap.size))
    (hev : ∀ e ∈ es, EvK (D i).S w.heap.size e) (hd : d'.deaf = (D i).deaf) (hlt : d'.stage < (D i).stage ∨ (d'.stage = (D i).stage ∧ d'.fuel + 1 = (D i).fuel)) :
    ∃ m₁ ops μ', runT P (crowd gs w sl) (κ + i) = (.next m₁, ops) ∧ Lt2 μ' (mu κ j D qo N f) ∧ Inv P ty Post μ' m₁ (t ++ ops) := by
  have hl := hcom.notlaw hi
  have hsz : w.heap.size ≤ w'.heap.size := by rcases hw with ⟨_, rfl⟩ | ⟨cs, t, rfl⟩ <;> simp [World.at]
  have hsame : ∀ x, x < w.heap.size → w'.heap[x]? = w.heap[x]? := fun x hx => by
    rcases hw with ⟨_, rfl⟩ | ⟨cs, t, rfl⟩
    · rfl
    · exact heap_alloc_ne _ _ hx
  have hwg := hsame st.wg (hcom.grp hl).2
  have hR : ROf ty st w w' := rof_of hcom hl (by rcases hw with ⟨_, rfl⟩ | ⟨cs, t, rfl⟩ <;> rfl) (by rcases hw with ⟨_, rfl⟩ | ⟨cs, t, rfl⟩ <;> rfl) (by rcases hw with ⟨_, rfl⟩ | ⟨cs, t, rfl⟩ <;> rfl) hsz (X := fun _ => False) (fun _ x => x.elim) (fun x hx _ => hsame x hx) (live_of hwg)
  have hchs : ∀ c, st.chs c → w'.heap[c]? = w.heap[c]? := fun c hc => by
    obtain ⟨x, hx, rfl⟩ := hcom.chs c hl hc
    exact hsame _ (hcom.clt hx)
  obtain ⟨f', b', hcs', hf', hb', _⟩ := hcs.woken hR (fun c _ _ hc _ => hchs c hc) g g'
  refine workerGo ha hcom hi hg hgo hk hc hsz (fun x hx _ _ _ => hsame x hx) (fun x hx _ => hsame _ (hcom.clt hx)) (live_of hwg) (fun x hx => ?_) (fun x hx => ?_) hO ?_ (fun h7 => by omega) ?_ ⟨f', b', hcs', hf', hgm.keep hi (by omega) hwg hb'⟩ hlt
  · rcases hS with e | ⟨e, cs, t, rfl⟩
    · rw [e] at hx; exact .inl hx
    · rw [e] at hx
      rcases hx with h1 | rfl
      · exact .inl h1
      · exact .inr ⟨rfl, cs, t, (0, 0), heap_alloc_new w _⟩
  · obtain ⟨_, _, _, h4, cs, t, fr, h5⟩ := hcom.sw i hi x hx
    exact ⟨cs, t, fr, (hsame x h4).trans h5⟩
  · obtain ⟨buf, s, r, h1, h2, h3⟩ := hcom.chan i hi
    refine ⟨buf, s, r, ?_, by rw [hss]; exact h2, h3⟩
    rw [hc, hsame _ (hcom.clt hi), h1]
    have e1 : decide ((D i).stage ≤ 7) = decide (d'.stage ≤ 7) := by rw [decide_eq_false (by omega), decide_eq_false (by omega)]
    rw [e1]
  · rcases hS with e | ⟨e, cs, ty', rfl⟩
    · exact tf_worker hcom hi e hsz (fun e he => evW_of_K hsz (hev e he)) (by rw [deaf_of_K hev, hd]) (fun h6 => by omega)
    · have h1 := tf_worker (w' := w.alloc (.cells cs ty')) (d' := { d' with S := (D i).S }) (fn := g.frame.fn) (pos := g.frame.place) (es := es) hcom hi rfl hsz (fun e he => evW_of_K hsz (hev e he)) (by rw [deaf_of_K hev]; exact hd.symm) (fun h6 => by simp only at h6; omega)
      have h2 := tf_worker (w' := w) (d' := { d' with S := (D i).S }) (fn := g.frame.fn) (pos := g.frame.place) (es := es) hcom hi rfl (Nat.le_refl _) (fun e he => evW_of_K (Nat.le_refl _) (hev e he)) (by rw [deaf_of_K hev]; exact hd.symm) (fun h6 => by simp only at h6; omega)
      have h3 := h2.alloc (grp' := st.grp) (Rd' := RdF κ j (upd D i d') So) (B' := (w.alloc (.cells cs ty')).heap.size) (fun _ => id) (fun _ => .inl) (fun k l hl => ?_) (fun k l hl => ?_) hsz
      · have ed : (fun x => (upd D i { d' with S := (D i).S } x).deaf) = fun x => (upd D i d' x).deaf := by rw [deaf_upd, deaf_upd]
        have es' : (fun x => (upd D i { d' with S := (D i).S } x).stage ≤ 6) = fun x => (upd D i d' x).stage ≤ 6 := by
          funext x
          by_cases ex : x = i
          · subst ex; simp only [upd_same]
          · simp only [upd_ne D _ ex]
        rw [ed, es'] at h3
        exact h3
      · obtain ⟨y, rfl, hy | ⟨y1, y2, hy⟩⟩ := hl
        · exact ⟨y, rfl, .inl hy⟩
        · refine ⟨y, rfl, .inr ⟨y1, y2, ?_⟩⟩
          by_cases ex : k - κ = i
          · rw [ex, upd_same] at hy ⊢; rw [e]; exact .inl hy
          · rw [upd_ne D _ ex] at hy ⊢; exact hy
      · obtain ⟨y, rfl, hy | ⟨y1, y2, hy⟩⟩ := hl
        · exact .inl ⟨y, rfl, .inl hy⟩
        · by_cases ex : k - κ = i
          · rw [ex, upd_same, e] at hy
            rcases hy with hy | hy
            · exact .inl ⟨y, rfl, .inr ⟨y1, y2, by rw [ex, upd_same]; exact hy⟩⟩
            · exact .inr ⟨y, rfl, by omega⟩
          · rw [upd_ne D _ ex] at hy
            exact .inl ⟨y, rfl, .inr ⟨y1, y2, by rw [upd_ne D _ ex]; exact hy⟩⟩
end

end Go.Proofs.YtiodikflmijhkaaGreatDoor.Farm
end

section
set_option linter.unusedSectionVars false
set_option linter.unusedVariables false
namespace Go.Proofs.YtiodikflmijhkaaGreatDoor.Farm
open Go.Conc Go.ConcN
open Go.ConcR (KK wgBlock WgAt stA smA rd wr mk Payload Aside2 DC0 Bk g_of_ofEvents loc_of_ofEvent ofEvent_loc_mark again_blocked bk_of_mute ofEvent_cell)
variable [Payload]

section
variable {P : Program} {ty : TypeId} {Post : MSt → Goroutine → World → Prop} {κ j : Nat} {gs : Array Goroutine} {w w' : World} {sl : Option (Nat × Nat)} {t : Trace} {D : Nat → KD} {So : Nat → Nat → Prop} {qo : Nat → Nat} {st : MSt} {N f : Nat} {b : Bool} {a : Goroutine}

theorem CS.offers (h : CS P ty Post st N f b a w) (c : Nat) : (∃ z g₂, st.chs c ∧ st.tag = .opn false ∧ a = parked g₂ #[rcase c z] (.recv true)) ∨ offersAt a c false = [] := by
  cases h with
  | run h => exact .inr (offersAt_of_not_blocked (by rw [Goes.running (fun _ _ x => x.1) w (ROf.refl ty st w) h]; simp) _ _)
  | park h1 h2 h3 h4 h5 =>
    rename_i N c' z g g₂
    by_cases e : c' = c
    · subst e; exact .inl ⟨z, g₂, h3, h1, rfl⟩
    · exact .inr (by rw [offersAt_parked_recv, if_neg e])
  | sem h1 h2 h3 =>
    have := (h3 w (ROf.refl ty st w)).off
    exact .inr (by simp only [offersAt, this])

/-- The world behind a turn of one of the channels. -/
theorem rof_chan (h : Com P ty κ j gs w t D So qo st) {i : Nat} (hi : i < j) (cap : Nat) (buf : Array Value) (cl : Bool) (s r : Nat) (tm : Bool) : ROf ty st w (w.setChan (D i).c cap buf cl s r tm) :=
  rof_of h (h.notlaw hi) rfl rfl rfl (by rw [size_setChan]; exact Nat.le_refl _) (X := fun x => x = (D i).c) (fun x e => by subst e; exact ⟨fun y => y.elim (h.cm hi) fun z => z.2.1 (h.cmay i hi).2.2, Nat.le_of_lt (h.cmay i hi).2.1⟩) (fun x _ e => heap_setChan_ne' _ _ _ _ _ _ _ _ e)
    (live_of (heap_setChan_ne' _ _ _ _ _ _ _ _ (Nat.ne_of_lt (h.cmay i hi).2.1)))

theorem sc_pos {N : Nat} {st : MSt} {g : Goroutine} {w : World} (h : Sc P ty Post N st g w) : ∃ m, CS P ty Post st N (m + 1) false g w := by
  cases N with
  | zero => exact h.elim
  | succ N => obtain ⟨m, h⟩ := h; exact ⟨m, .run h⟩

theorem Sc.le {N : Nat} {st : MSt} {g : Goroutine} {w : World} (h : CS P ty Post st N f b g w) : 0 < N := by cases h <;> omega

theorem recvAt_some {N c : Nat} {z : Value} {g g₂ : Goroutine} {v : Value} {r : List Value} (h : RecvAt P ty (Sc P ty Post N) st c z g g₂ w) (hq : st.q c = v :: r) : ∃ m, CS P ty Post { st with q := upd st.q c r } N (m + 1) false (Conc.served g₂ (recvd true v true)) w := sc_pos (h.some v r hq)

set_option maxHeartbeats 3200000 in
theorem sendStep (ha : gs[0]? = some a) (hcs : CS P ty Post st N f b a w) (hcom : Com P ty κ j gs w t D So qo st) (hgm : GM ty st j D b w) {i : Nat} (hi : i < j) {g g₂ : Goroutine} {es : Array Event} {Nw m : Nat} {v z : Value} {r : List Value} {S O : Nat → Prop} {c mo : Nat}
    (hD : D i = ⟨8 + (Nw + 1), mo, 0, S, O, c, v :: r⟩) (hN : Nw + 1 ≤ 10) (hg : gs[κ + i]? = some g) (hgo : stepG P false g w = .comm g₂ #[scase c v z] true .send w es) (hev : ∀ e ∈ es, EvK S w.heap.size e)
    (hK : Goes P false (RK ty st.wg S) (DK S) (fun g w => g.status = .running ∧ KStop P ty st.wg c (Wk P ty st.wg c Nw) O S r g w) m (Conc.served g₂ undef) w) :
    ∃ m₁ ops μ', runT P (crowd gs w sl) (κ + i) = (.next m₁, ops) ∧ Lt2 μ' (mu κ j D qo N f) ∧ Inv P ty Post μ' m₁ (t ++ ops) := by
  have hl := hcom.notlaw hi
  have hk1 := hcom.k1
  obtain ⟨d', hd'⟩ : ∃ d' : KD, d' = ⟨8 + Nw, m, 0, S, O, c, r⟩ := ⟨_, rfl⟩
  have ec : (D i).c = c := by rw [hD]
  have eS : (D i).S = S := by rw [hD]
  have eO : (D i).O = O := by rw [hD]
  obtain ⟨buf, s, rr, h1, h2, h3⟩ := hcom.chan i hi
  rw [ec] at h1 h2 h3
  have est : decide ((D i).stage ≤ 7) = false := by rw [hD]; exact decide_eq_false (by simp; omega)
  rw [est] at h1
  have ess : (D i).ss = v :: r := by rw [hD]
  rw [ess] at h2
  have hclt : c < w.heap.size := by have := hcom.clt hi; rwa [ec] at this
  have hi0 : (κ + i == 0) = false := by simp; omega
  have hgo' : stepG P (κ + i == 0) g w = .comm g₂ #[scase c v z] true .send w es := by rw [hi0]; exact hgo
  -- what holds behind it, whatever has become of the channel
  have after : ∀ (buf' : Array Value) (s' r' : Nat) (q' : Nat → List Value) (gs' : Array Goroutine) (N' f' : Nat) (a' : Goroutine) (u : Trace), q' c = buf'.toList ++ r → (q' c).length ≤ 6 → (∀ x, x < j → x ≠ i → q' (D x).c = st.q (D x).c) →
      gs'.size = gs.size → gs'[κ + i]? = some (Conc.served g₂ undef) → (∀ x, 1 ≤ x → x ≠ κ + i → gs'[x]? = gs[x]?) → gs'[0]? = some a' → CS P ty Post { st with q := q' } N' f' b a' (w.setChan c 6 buf' false s' r' false) → N' ≤ N →
      (∀ op ∈ u, op.g ≤ κ + j - 1) → (∀ op ∈ u, op.act.touch? = none) → (∀ op ∈ u, op.act ≠ .mark .disable ∧ op.act ≠ .mark .enable ∧ ∀ x, op.act ≠ .mark (.release x)) →
      runT P (crowd gs w sl) (κ + i) = (.next (crowd gs' (w.setChan c 6 buf' false s' r' false) sl), MemOp.ofEvents (κ + i) g.frame.fn g.frame.place es ++ u) →
      ∃ m₁ ops μ', runT P (crowd gs w sl) (κ + i) = (.next m₁, ops) ∧ Lt2 μ' (mu κ j D qo N f) ∧ Inv P ty Post μ' m₁ (t ++ ops) := by
    intro buf' s' r' q' gs' N' f' a' u hq1 hq2 hq3 hgs hgi hgo2 hg0 hcs' hN' u1 u2 u3 hrun
    obtain ⟨w', hw'⟩ : ∃ w', w' = w.setChan c 6 buf' false s' r' false := ⟨_, rfl⟩
    have hne : ∀ x, x ≠ c → w'.heap[x]? = w.heap[x]? := fun x hx => by rw [hw']; exact heap_setChan_ne' _ _ _ _ _ _ _ _ hx
    have hsz : w'.heap.size = w.heap.size := by rw [hw']; exact size_setChan _ _ _ _ _ _ _ _
    have hcS : ∀ x, S x → x ≠ c := fun x hx e => hcom.ce hi hi (by rw [eS, ec]; exact e ▸ hx)
    have hwgc : st.wg ≠ c := by have := (hcom.cmay i hi).2.1; rw [ec] at this; omega
    rw [← hw'] at hcs' hrun
    refine ⟨_, _, mu κ j (upd D i d') qo N' f', hrun, mu_worker hi hN' (.inl (by rw [hd', hD]; simp)), gs', w', sl, κ, j, upd D i d', So, qo, { st with q := q' }, N', f', b, a', rfl, hg0, hcs', ?_, fun _ => ?_, rfl⟩
    · refine hcom.worker hi hgs hgi ?_ hgo2 (by rw [hd', hD]) (by omega) (fun x hx _ _ hxc => hne x (by rw [← ec]; exact hxc i hi)) (fun x hx e => hne _ fun e' => e (hcom.cne x i hx hi (e'.trans ec.symm))) (live_of (hne _ hwgc)) (fun x hx => .inl (by rw [eS]; rw [hd'] at hx; exact hx)) (fun x hx => ?_)
        (fun x hx => by rw [hd'] at hx ⊢; exact ⟨by rw [← eS]; exact hcom.os i hi x (by rw [eO]; exact hx), .inl (by rw [eO]; exact hx)⟩) ?_ hq3 (fun h7 => by rw [hd'] at h7; simp at h7; omega) ?_ (fun x h1 hx => ?_)
      · rw [hd']
        exact .scr (by omega) (Goes.rely (R := RK ty st.wg S) (fun _ _ _ a b => RK.trans a b) hK ⟨by omega, fun x hx => hne x (hcS x hx), live_of (hne _ hwgc)⟩)
      · obtain ⟨_, _, _, _, cs, t', fr, h5⟩ := hcom.sw i hi x hx
        exact ⟨cs, t', fr, (hne x (hcS x (by rw [← eS]; exact hx))).trans h5⟩
      · rw [ec]
        refine ⟨buf', s', r', ?_, by rw [hd']; exact hq1, hq2⟩
        rw [hd', hw']
        have e0 : decide (8 + Nw ≤ 7) = false := decide_eq_false (by omega)
        simp only [e0]
        exact heap_setChan_at _ _ _ _ _ _ _ _ hclt
      · rw [← Array.append_assoc]
        exact (tf_worker (w' := w') hcom hi (by rw [hd', eS]) (by omega) (fun e he => evW_of_K (B := w.heap.size) (by omega) (by rw [eS]; exact hev e he)) (by rw [deaf_of_K hev, hd', hD]) (fun h6 => by rw [hd'] at h6; simp at h6; omega)).comm hk1 (by rw [RdF_upd (by rw [hd', eS])]; exact hcom.apart) (Nat.le_refl _) u1 u2 u3
      · rw [← Array.append_assoc, Deaf_still _ _ u fun op hop => ⟨(u3 op hop).1, (u3 op hop).2.1⟩]
        exact Deaf_other t (by omega) _ g_of_ofEvents
    · have := hgm.keep (w' := w') hi (d' := d') (by rw [hd', hD]; simp; omega) (hne _ hwgc) (.inl rfl)
      exact ⟨this.mode, this.bd, this.bdm⟩
  have hst : ∀ (x : Nat) (y : Goroutine), x ≠ 0 → (gs.setIfInBounds (κ + i) ph)[x]? = some y → offersAt y c false = [] := fun x y hx0 hy => by
    rcases getElem?_stand gs (κ + i) x y hy with ⟨_, rfl⟩ | ⟨_, hy'⟩
    · exact offersAt_ph _ _
    · exact offers_worker hcom (by omega) hy' _ _
  rcases hcs.offers c with ⟨zm, gm, hchs, htag, rfl⟩ | hno
  · -- THE STARTER WAITS THERE
    generalize hA : parked gm #[rcase c zm] (.recv true) = A at hcs
    cases hcs with
    | run h =>
      have := Goes.running (fun _ _ x => x.1) w (ROf.refl ty st w) h
      rw [← hA] at this; cases this
    | sem p1 p2 p3 =>
      have := (p3 w (ROf.refl ty st w)).off
      have eo := congrArg Goroutine.offers hA
      simp only [parked] at eo
      rw [this] at eo; cases eo
    | park p1 p2 p3 p4 p5 =>
      rename_i N c' z' g0 g2'
      have eo : (some (#[rcase c zm], CommShape.recv true) : Option (Array CommCase × CommShape)) = some (#[rcase c' z'], CommShape.recv true) := congrArg Goroutine.offers hA
      have e1 : rcase c zm = rcase c' z' := by simpa using eo
      obtain ⟨rfl, rfl⟩ : c = c' ∧ zm = z' := by simpa [rcase] using e1
      obtain ⟨s0, r0, p4⟩ := p4
      rw [p4] at h1
      obtain ⟨rfl, rfl, rfl⟩ : buf = #[] ∧ s0 = s ∧ r0 = rr := by simp at h1; exact ⟨h1.1, h1.2.1, h1.2.2⟩
      have hqc : st.q c = v :: r := by simpa using h2
      have hpar : partners (gs.setIfInBounds (κ + i) ph) c false = [(0, 0)] := by
        have h0 : (gs.setIfInBounds (κ + i) ph)[0]? = some (parked gm #[rcase c zm] (.recv true)) := by rw [Array.getElem?_setIfInBounds_ne (by omega)]; exact ha
        rw [partners_one h0 fun x y hx hy => hst x y hx hy, offersAt_parked_recv, if_pos rfl]
        rfl
      have hrun := crowd_send_meets (P := P) (sl := sl) (i := κ + i) (j := 0) (gj := gm) (zj := zm) (shj := .recv true) hg hgo' p4 (by omega) ha hpar
      rw [finishComm_send, finishComm_recv] at hrun
      obtain ⟨m2, hcs'⟩ := recvAt_some (p5 (w.setChan c 6 #[] false (s0 + 1) (r0 + 1) false) (by have := rof_chan hcom hi 6 #[] false (s0 + 1) (r0 + 1) false; rw [ec] at this; exact this)) hqc
      have eg : Conc.served gm (recvd true v true) = Conc.served g2' (recvd true v true) := by
        have f1 : gm.frame = g2'.frame := by have := congrArg Goroutine.frame hA; exact this
        have f2 : gm.callers = g2'.callers := by have := congrArg Goroutine.callers hA; exact this
        have f3 : gm.dying = g2'.dying := by have := congrArg Goroutine.dying hA; exact this
        obtain ⟨x1, x2, x3, x4, x5⟩ := gm
        obtain ⟨y1, y2, y3, y4, y5⟩ := g2'
        simp only at f1 f2 f3
        subst f1 f2 f3
        rfl
      rw [eg] at hrun
      refine after #[] (s0 + 1) (r0 + 1) (upd st.q c r) _ N (m2 + 1) _ _ (by rw [upd_same]; rfl) (by rw [upd_same]; rw [hqc] at h3; simp at h3; omega) (fun x hx e => upd_ne _ _ fun e' => e (hcom.cne x i hx hi (e'.trans ec.symm)))
        (by simp) (by rw [Array.getElem?_setIfInBounds_self_of_lt (by simp [hcom.size]; omega)]) (fun x hx e => by rw [Array.getElem?_setIfInBounds_ne (Ne.symm e), Array.getElem?_setIfInBounds_ne (by omega)])
        (by rw [Array.getElem?_setIfInBounds_ne (by omega), Array.getElem?_setIfInBounds_self_of_lt (by rw [hcom.size]; omega)]) hcs' (by omega) ?_ ?_ ?_ hrun
      · intro op hop; simp at hop; rcases hop with rfl | rfl | rfl | rfl <;> simp <;> omega
      · intro op hop; simp at hop; rcases hop with rfl | rfl | rfl | rfl <;> rfl
      · intro op hop; simp at hop; rcases hop with rfl | rfl | rfl | rfl <;> simp
  · -- INTO THE BUFFER
    have hpar : partners (gs.setIfInBounds (κ + i) ph) c false = [] := partners_nil fun x y hy => by
      by_cases e : x = 0
      · subst e
        rw [Array.getElem?_setIfInBounds_ne (by omega), ha] at hy; cases hy
        exact hno
      · exact hst x y e hy
    have hroom : buf.size < 6 := by
      rw [h2] at h3
      simp at h3; omega
    have hrun := crowd_send_room (P := P) (sl := sl) (i := κ + i) hg hgo' h1 hroom hpar
    rw [finishComm_send] at hrun
    refine after (buf.push v) (s + 1) rr st.q _ N f a _ (by rw [h2]; simp) h3 (fun _ _ _ => rfl) (by simp) (by rw [Array.getElem?_setIfInBounds_self_of_lt (by rw [hcom.size]; omega)]) (fun x hx e => by rw [Array.getElem?_setIfInBounds_ne (Ne.symm e)])
      (by rw [Array.getElem?_setIfInBounds_ne (by omega)]; exact ha) (hcs.rely (by have := rof_chan hcom hi 6 (buf.push v) false (s + 1) rr false; rw [ec] at this; exact this) fun c' z' g2' hc' e => ?_) (Nat.le_refl _) ?_ ?_ ?_ hrun
    · by_cases ecc : c' = c
      · subst ecc
        rw [e, offersAt_parked_recv, if_pos rfl] at hno; cases hno
      · exact heap_setChan_ne' _ _ _ _ _ _ _ _ ecc
    · intro op hop; simp at hop; rcases hop with rfl | rfl <;> simp <;> omega
    · intro op hop; simp at hop; rcases hop with rfl | rfl <;> rfl
    · intro op hop; simp at hop; rcases hop with rfl | rfl <;> simp
end

end Go.Proofs.YtiodikflmijhkaaGreatDoor.Farm
end
