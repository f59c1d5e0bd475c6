/- Joined texts: F3 F4. -/
import Derived.Test.YtiodikflmijhkaaGreatDoorJ15
section
set_option linter.unusedSectionVars false
set_option linter.unusedVariables false
namespace Go.Proofs.YtiodikflmijhkaaGreatDoor.Farm
open Go.Conc Go.ConcN
open Go.ConcR (KK wgBlock WgAt stA smA rd wr mk Payload Aside2 DC0 Bk g_of_ofEvents loc_of_ofEvent ofEvent_loc_mark)
variable [Payload]

structure KD where
  stage : Nat
  fuel : Nat
  deaf : Nat
  S : Nat → Prop
  O : Nat → Prop
  c : Nat
  ss : List Value

/-- Where a worker stands: in its script (stage 8 and what is left of it), or behind its close. -/
inductive KS (P : Program) (ty : TypeId) (wg : Nat) : KD → Goroutine → World → Prop
  | scr {N m c : Nat} {S O : Nat → Prop} {ss : List Value} {g : Goroutine} {w : World} : N ≤ 10 → Goes P false (RK ty wg S) (DK S) (fun g w => g.status = .running ∧ KStop P ty wg c (Wk P ty wg c N) O S ss g w) m g w → KS P ty wg ⟨8 + N, m, 0, S, O, c, ss⟩ g w
  | lib {C n s m d c : Nat} {v : Value} {S O : Nat → Prop} {g : Goroutine} {w : World} : O C → s ≤ 7 → PayAt C n w → WSit P ty wg C n No No 0 1 v s m d g w → KS P ty wg ⟨s, m, d, S, O, c, []⟩ g w

section
variable {P : Program} {ty : TypeId} {wg : Nat} {d : KD} {g : Goroutine} {w w₁ : World}

theorem KS.rely (h : KS P ty wg d g w) (hOS : ∀ b, d.O b → d.S b) (r : RK ty wg d.S w w₁) : KS P ty wg d g w₁ := by
  cases h with
  | scr hN h => exact .scr hN (Goes.rely (R := RK ty wg _) (fun _ _ _ a b => RK.trans a b) h r)
  | lib hC h7 hp h =>
    rename_i C n s m d c v S O
    have e := r.keep C (hOS C hC)
    obtain ⟨cs, h1, h2⟩ := hp
    exact .lib hC h7 ⟨cs, e.trans h1, h2⟩ (h.rely ⟨fun b hb => absurd hb (Nat.not_lt_zero _), r.live, fun ⟨cs, h1, h2⟩ => ⟨cs, e.trans h1, h2⟩, cell_of_block e _⟩)

theorem KS.status (h : KS P ty wg d g w) : g.status = .running ∨ g.status = .finished := by
  cases h with
  | scr _ h => exact .inl (Goes.running (fun _ _ x => x.1) w (RK.refl w) h)
  | lib _ _ _ h => exact h.status

theorem KS.woken (h : KS P ty wg d g w) (a a' : Goroutine) (w' : World) : Conc.woken P a a' w' g = g := by
  unfold Go.Conc.woken
  split
  · exact again_running _ h.status
  · rfl

theorem KS.running_of (h : KS P ty wg d g w) (hs : d.stage ≠ 1) : g.status = .running := by
  cases h with
  | scr _ h => exact Goes.running (fun _ _ x => x.1) w (RK.refl w) h
  | lib _ _ _ h => exact h.running_of hs
end

def aOf (st : MSt) : Option Addr := match st.tag with | .law => none | _ => some (stA st.wg)
def RdF (κ j : Nat) (D : Nat → KD) (So : Nat → Nat → Prop) (k : Nat) (l : Loc) : Prop := ∃ a, l = .cell a ∧ ((k < κ ∧ So k a.block) ∨ (κ ≤ k ∧ k < κ + j ∧ (D (k - κ)).S a.block))

def ChanAt (w : World) (q : List Value) (d : KD) : Prop := ∃ buf s r, w.heap[d.c]? = some (.chan 6 buf (decide (d.stage ≤ 7)) s r false) ∧ q = buf.toList ++ d.ss ∧ q.length ≤ 6

structure Com (P : Program) (ty : TypeId) (κ j : Nat) (gs : Array Goroutine) (w : World) (t : Trace) (D : Nat → KD) (So : Nat → Nat → Prop) (qo : Nat → Nat) (st : MSt) : Prop where
  size : gs.size = κ + j
  k1 : 1 ≤ κ
  gsz : st.gs = κ + j
  j1 : j ≤ 1000
  wk : ∀ i, i < j → ∃ g, gs[κ + i]? = some g ∧ KS P ty st.wg (D i) g w
  old : ∀ i, 1 ≤ i → i < κ → ∃ g, gs[i]? = some g ∧ QuitsD P (qo i) (Deaf t i) g
  tf : TF κ j w.heap.size st.grp (RdF κ j D So) st.d (fun i => (D i).deaf) (aOf st) (fun i => (D i).stage ≤ 6) t
  sw : ∀ i, i < j → ∀ b, (D i).S b → st.zone b ∧ ¬ st.may b ∧ ¬ st.grp b ∧ b < w.heap.size ∧ ∃ cs t f, w.heap[b]? = some (.cells cs t f)
  so : ∀ k, k < κ → ∀ b, So k b → st.zone b ∧ ¬ st.may b ∧ ¬ st.grp b ∧ b < w.heap.size
  os : ∀ i, i < j → ∀ b, (D i).O b → (D i).S b
  ow : ∀ i, i < j → ∀ b, (D i).O b → st.wg < b
  oo : ∀ i i', i < j → i' < j → i ≠ i' → ∀ b, (D i).O b → ¬ (D i').S b
  chan : ∀ i, i < j → ChanAt w (st.q (D i).c) (D i)
  shut : ∀ i, i < j → (D i).stage ≤ 7 → (D i).ss = []
  cne : ∀ i i', i < j → i' < j → (D i).c = (D i').c → i = i'
  cmay : ∀ i, i < j → st.grp (D i).c ∧ st.wg < (D i).c ∧ st.chs (D i).c
  chs : ∀ c, st.tag ≠ .law → st.chs c → ∃ i, i < j ∧ (D i).c = c
  lawj : st.tag = .law → j = 0
  grp : st.tag ≠ .law → st.grp st.wg ∧ st.wg < w.heap.size
  gm : ∀ b, st.may b → ¬ st.grp b
  glt : ∀ b, st.grp b → b < w.heap.size
  zn : st.tag ≠ .law → ∀ b, st.wg ≤ b → st.zone b
  mlt : st.tag ≠ .law → ∀ b, st.may b → b < w.heap.size

section
variable {P : Program} {ty : TypeId} {κ j : Nat} {gs gs' : Array Goroutine} {w w' : World} {t t' : Trace} {D : Nat → KD} {So : Nat → Nat → Prop} {qo : Nat → Nat} {st st' : MSt}

theorem Com.notlaw (h : Com P ty κ j gs w t D So qo st) {i : Nat} (hi : i < j) : st.tag ≠ .law := fun e => by have := h.lawj e; omega

theorem Com.cm (h : Com P ty κ j gs w t D So qo st) {i : Nat} (hi : i < j) : ¬ st.may (D i).c := fun x => h.gm _ x (h.cmay i hi).1

theorem Com.apart (h : Com P ty κ j gs w t D So qo st) : ∀ k l, RdF κ j D So k l → ¬ ShL st.grp l := by
  rintro k l ⟨a, rfl, ⟨hk, hs⟩ | ⟨h1, h2, hs⟩⟩
  · exact (h.so k hk _ hs).2.2.1
  · exact (h.sw (k - κ) (by omega) _ hs).2.2.1

theorem Com.ce (h : Com P ty κ j gs w t D So qo st) {i x : Nat} (hi : i < j) (hx : x < j) : ¬ (D i).S (D x).c := fun hs => by
  obtain ⟨_, _, _, _, cs, t, f, hb⟩ := h.sw i hi _ hs
  obtain ⟨buf, s, r, hc, _⟩ := h.chan x hx
  rw [hb] at hc; cases hc
theorem Com.wgS (h : Com P ty κ j gs w t D So qo st) {i : Nat} (hi : i < j) {b : Nat} (hs : (D i).S b) : b ≠ st.wg := fun e => (h.sw i hi b hs).2.2.1 (e ▸ (h.grp (h.notlaw hi)).1)

/-- WHATEVER STEP OF WORKER NUMBER i. -/
theorem Com.worker (h : Com P ty κ j gs w t D So qo st) {i : Nat} (hi : i < j) {d' : KD} {q' : Nat → List Value} {g' : Goroutine}
    (hgs : gs'.size = gs.size) (hgi : gs'[κ + i]? = some g') (hk : KS P ty st.wg d' g' w') (hgo : ∀ x, 1 ≤ x → x ≠ κ + i → gs'[x]? = gs[x]?) (hc : d'.c = (D i).c)
    (hsz : w.heap.size ≤ w'.heap.size) (hsame : ∀ b, b < w.heap.size → b ≠ st.wg → ¬ (D i).O b → (∀ x, x < j → b ≠ (D x).c) → w'.heap[b]? = w.heap[b]?)
    (hch : ∀ x, x < j → x ≠ i → w'.heap[(D x).c]? = w.heap[(D x).c]?) (hlive : WgLive ty st.wg w → WgLive ty st.wg w')
    (hS : ∀ b, d'.S b → (D i).S b ∨ (b = w.heap.size ∧ ∃ cs t f, w'.heap[b]? = some (.cells cs t f))) (hSc : ∀ b, (D i).S b → ∃ cs t f, w'.heap[b]? = some (.cells cs t f))
    (hO : ∀ b, d'.O b → d'.S b ∧ ((D i).O b ∨ b = w.heap.size)) (hchan : ChanAt w' (q' (D i).c) d') (hq : ∀ x, x < j → x ≠ i → q' (D x).c = st.q (D x).c) (hss : d'.stage ≤ 7 → d'.ss = [])
    (htf : TF κ j w'.heap.size st.grp (RdF κ j (upd D i d') So) st.d (fun x => (upd D i d' x).deaf) (aOf st) (fun x => (upd D i d' x).stage ≤ 6) t') (hdo : ∀ x, 1 ≤ x → x < κ → Deaf t' x = Deaf t x) :
    Com P ty κ j gs' w' t' (upd D i d') So qo { st with q := q' } := by
  have hl := h.notlaw hi
  have szlt : ∀ b, (D i).S b ∨ b = w.heap.size → b = w.heap.size ∨ b < w.heap.size := fun b hb => hb.elim (fun x => .inr (h.sw i hi b x).2.2.2.1) .inl
  have same' : ∀ x, x < j → x ≠ i → ∀ b, (D x).S b → w'.heap[b]? = w.heap[b]? := fun x hx e b hb =>
    hsame b (h.sw x hx b hb).2.2.2.1 (h.wgS hx hb) (fun ho => h.oo i x hi hx (Ne.symm e) b ho hb) (fun y hy e' => h.ce hx hy (e' ▸ hb))
  have lt' : ∀ b cs t f, w'.heap[b]? = some (.cells cs t f) → b < w'.heap.size := fun b cs t f hb => (Array.getElem?_eq_some_iff.1 hb).1
  refine ⟨hgs.trans h.size, h.k1, h.gsz, h.j1, fun x hx => ?_, fun x h1 hx => ?_, htf, fun x hx b hb => ?_, fun k hk' b hb => ?_, fun x hx b hb => ?_, fun x hx b hb => ?_, fun x y hx hy e b ho hs => ?_, fun x hx => ?_, fun x hx h7 => ?_, fun x y hx hy e => ?_, fun x hx => ?_, fun c hl' hcc => ?_, h.lawj, fun hl' => ⟨(h.grp hl').1, Nat.lt_of_lt_of_le (h.grp hl').2 hsz⟩, h.gm, fun b hb => Nat.lt_of_lt_of_le (h.glt b hb) hsz, h.zn, fun hl' b hb => Nat.lt_of_lt_of_le (h.mlt hl' b hb) hsz⟩
  · by_cases e : x = i
    · subst e; exact ⟨g', hgi, by rw [upd_same]; exact hk⟩
    · obtain ⟨g, hg, hks⟩ := h.wk x hx
      refine ⟨g, (hgo _ (by have := h.k1; omega) (by omega)).trans hg, ?_⟩
      rw [upd_ne D _ e]
      exact hks.rely (h.os x hx) ⟨hsz, same' x hx e, hlive⟩
  · obtain ⟨g, hg, hq⟩ := h.old x h1 hx
    exact ⟨g, (hgo x h1 (by omega)).trans hg, by rw [hdo x h1 hx]; exact hq⟩
  · by_cases e : x = i
    · subst e
      rw [upd_same] at hb
      rcases hS b hb with h1 | ⟨rfl, cs, t, f, h1⟩
      · obtain ⟨a1, a2, a3, a4, _⟩ := h.sw x hi b h1
        exact ⟨a1, a2, a3, Nat.lt_of_lt_of_le a4 hsz, hSc b h1⟩
      · exact ⟨h.zn hl _ (Nat.le_of_lt (h.grp hl).2), fun hm => Nat.lt_irrefl _ (h.mlt hl _ hm), fun hm => Nat.lt_irrefl _ (h.glt _ hm), lt' _ _ _ _ h1, cs, t, f, h1⟩
    · rw [upd_ne D _ e] at hb
      obtain ⟨a1, a2, a3, a4, cs, t, f, h1⟩ := h.sw x hx b hb
      exact ⟨a1, a2, a3, Nat.lt_of_lt_of_le a4 hsz, cs, t, f, (same' x hx e b hb).trans h1⟩
  · obtain ⟨a1, a2, a3, a4⟩ := h.so k hk' b hb
    exact ⟨a1, a2, a3, Nat.lt_of_lt_of_le a4 hsz⟩
  · by_cases e : x = i
    · subst e; rw [upd_same] at hb ⊢; exact (hO b hb).1
    · rw [upd_ne D _ e] at hb ⊢; exact h.os x hx b hb
  · by_cases e : x = i
    · subst e
      rw [upd_same] at hb
      rcases (hO b hb).2 with h1 | rfl
      · exact h.ow x hx b h1
      · exact (h.grp hl).2
    · rw [upd_ne D _ e] at hb; exact h.ow x hx b hb
  · by_cases e1 : x = i
    · subst e1
      rw [upd_same] at ho
      rw [upd_ne D _ (Ne.symm e)] at hs
      rcases (hO b ho).2 with h1 | rfl
      · exact h.oo x y hx hy e b h1 hs
      · exact Nat.lt_irrefl _ (h.sw y hy _ hs).2.2.2.1
    · rw [upd_ne D _ e1] at ho
      by_cases e2 : y = i
      · subst e2
        rw [upd_same] at hs
        rcases hS b hs with h1 | ⟨rfl, _⟩
        · exact h.oo x y hx hy e b ho h1
        · exact Nat.lt_irrefl _ (h.sw x hx _ (h.os x hx _ ho)).2.2.2.1
      · rw [upd_ne D _ e2] at hs
        exact h.oo x y hx hy e b ho hs
  · by_cases e : x = i
    · subst e; rw [upd_same, hc]; exact hchan
    · rw [upd_ne D _ e]
      show ChanAt w' (q' (D x).c) (D x)
      rw [hq x hx e]
      obtain ⟨buf, s, r, h1, h2⟩ := h.chan x hx
      exact ⟨buf, s, r, (hch x hx e).trans h1, h2⟩
  · by_cases e : x = i
    · subst e; rw [upd_same] at h7 ⊢; exact hss h7
    · rw [upd_ne D _ e] at h7 ⊢; exact h.shut x hx h7
  · have ec : ∀ z, (upd D i d' z).c = (D z).c := fun z => by
      by_cases e' : z = i
      · subst e'; rw [upd_same]; exact hc
      · rw [upd_ne D _ e']
    rw [ec, ec] at e
    exact h.cne x y hx hy e
  · have ec : (upd D i d' x).c = (D x).c := by
      by_cases e' : x = i
      · subst e'; rw [upd_same]; exact hc
      · rw [upd_ne D _ e']
    rw [ec]
    exact h.cmay x hx
  · obtain ⟨x, hx, e⟩ := h.chs c hl' hcc
    refine ⟨x, hx, ?_⟩
    by_cases e' : x = i
    · subst e'; rw [upd_same]; exact hc.trans e
    · rw [upd_ne D _ e']; exact e

/-- WHATEVER STEP OF THE STARTER's THAT STARTS NOBODY. -/
theorem Com.main (h : Com P ty κ j gs w t D So qo st)
    (hgs : gs'.size = gs.size) (hgo : ∀ x, 1 ≤ x → gs'[x]? = gs[x]?) (e1 : st'.wg = st.wg) (e2 : st'.grp = st.grp) (e3 : st'.zone = st.zone) (e4 : st'.chs = st.chs) (e5 : st'.gs = st.gs) (e6 : st'.tag = .law ↔ st.tag = .law)
    (hm : ∀ b, st'.may b → st.may b ∨ (b = w.heap.size ∧ w.heap.size < w'.heap.size))
    (hsz : w.heap.size ≤ w'.heap.size) (hsame : ∀ b, b < w.heap.size → b ≠ st.wg → ¬ st.may b → (∀ x, x < j → b ≠ (D x).c) → w'.heap[b]? = w.heap[b]?)
    (hlive : st.tag ≠ .law → WgLive ty st.wg w → WgLive ty st.wg w') (hchan : ∀ x, x < j → ChanAt w' (st'.q (D x).c) (D x))
    (htf : TF κ j w'.heap.size st.grp (RdF κ j D So) st'.d (fun x => (D x).deaf) (aOf st) (fun x => (D x).stage ≤ 6) t') (hdo : ∀ x, 1 ≤ x → x < κ → Deaf t' x = Deaf t x) :
    Com P ty κ j gs' w' t' D So qo st' := by
  have same' : ∀ x, x < j → ∀ b, (D x).S b → w'.heap[b]? = w.heap[b]? := fun x hx b hb =>
    hsame b (h.sw x hx b hb).2.2.2.1 (h.wgS hx hb) (h.sw x hx b hb).2.1 (fun y hy e' => h.ce hx hy (e' ▸ hb))
  have ea : aOf st' = aOf st := by
    unfold aOf
    rw [e1]
    by_cases e : st.tag = .law
    · rw [e, e6.2 e]
    · have e' : st'.tag ≠ .law := fun x => e (e6.1 x)
      cases h1 : st.tag <;> cases h2 : st'.tag <;> first | rfl | exact absurd h1 e | exact absurd h2 e'
  have ml : ∀ b, b < w.heap.size → ¬ st.may b → ¬ st'.may b := fun b hb hn hm' => (hm b hm').elim hn fun x => by omega
  refine ⟨hgs.trans h.size, h.k1, e5.trans h.gsz, h.j1, fun x hx => ?_, fun x h1 hx => ?_, by rw [e2, ea]; exact htf, fun x hx b hb => ?_, fun k hk' b hb => ?_, h.os, (fun x hx b hb => by rw [e1]; exact h.ow x hx b hb), h.oo, hchan, h.shut, h.cne, fun x hx => ?_, fun c hl hc => h.chs c (fun e => hl (e6.2 e)) (by rw [← e4]; exact hc), fun e => h.lawj (e6.1 e), fun hl => ?_, fun b hb => ?_, fun b hb => ?_, fun hl b hb => ?_, fun hl b hb => ?_⟩
  · obtain ⟨g, hg, hks⟩ := h.wk x hx
    refine ⟨g, (hgo _ (by have := h.k1; omega)).trans hg, ?_⟩
    rw [e1]
    exact hks.rely (h.os x hx) ⟨hsz, same' x hx, hlive (h.notlaw hx)⟩
  · obtain ⟨g, hg, hq⟩ := h.old x h1 hx
    exact ⟨g, (hgo x h1).trans hg, by rw [hdo x h1 hx]; exact hq⟩
  · obtain ⟨a1, a2, a3, a4, cs, t, f, a5⟩ := h.sw x hx b hb
    rw [e2, e3]
    exact ⟨a1, ml b a4 a2, a3, Nat.lt_of_lt_of_le a4 hsz, cs, t, f, (same' x hx b hb).trans a5⟩
  · obtain ⟨a1, a2, a3, a4⟩ := h.so k hk' b hb
    rw [e2, e3]
    exact ⟨a1, ml b a4 a2, a3, Nat.lt_of_lt_of_le a4 hsz⟩
  · obtain ⟨a1, a2, a3⟩ := h.cmay x hx
    obtain ⟨buf, s, r, hc, _⟩ := h.chan x hx
    rw [e1, e4]
    exact ⟨by rw [e2]; exact a1, a2, a3⟩
  · have := h.grp fun e => hl (e6.2 e)
    rw [e1, e2]
    exact ⟨this.1, Nat.lt_of_lt_of_le this.2 hsz⟩
  · rw [e2]
    rcases hm b hb with h1 | ⟨rfl, _⟩
    · exact h.gm b h1
    · exact fun hg => Nat.lt_irrefl _ (h.glt _ hg)
  · rw [e2] at hb; exact Nat.lt_of_lt_of_le (h.glt b hb) hsz
  · rw [e3]; rw [e1] at hb; exact h.zn (fun e => hl (e6.2 e)) b hb
  · rcases hm b hb with h1 | ⟨rfl, h1⟩
    · exact Nat.lt_of_lt_of_le (h.mlt (fun e => hl (e6.2 e)) b h1) hsz
    · exact h1

theorem Com.at (h : Com P ty κ j gs w t D So qo st) (d : Nat) : Com P ty κ j gs (w.at d) t D So qo st :=
  ⟨h.size, h.k1, h.gsz, h.j1, fun i hi => let ⟨g, hg, hs⟩ := h.wk i hi; ⟨g, hg, hs.rely (h.os i hi) (RK.at w d)⟩, h.old, h.tf, h.sw, h.so, h.os, h.ow, h.oo, h.chan, h.shut, h.cne, h.cmay, h.chs, h.lawj, h.grp, h.gm, h.glt, h.zn, h.mlt⟩

/-- A LEAVER's SLIP. -/
theorem Com.slip (h : Com P ty κ j gs w t D So qo st) {x k : Nat} (h1 : 1 ≤ x) (hx : x < κ) {g' : Goroutine} {fn : FuncId} {pos : String} {es : Array Event} (hm : ∀ e ∈ es, e.mute = true) (hq : QuitsD P k (deafBehind (Deaf t x) es) g')
    (hgs : gs'.size = gs.size) (hgx : gs'[x]? = some g') (hgo : ∀ y, 1 ≤ y → y ≠ x → gs'[y]? = gs[y]?) : Com P ty κ j gs' w (t ++ MemOp.ofEvents x fn pos es) D So (upd qo x k) st :=
  ⟨hgs.trans h.size, h.k1, h.gsz, h.j1, fun i hi => let ⟨g, hg, hs⟩ := h.wk i hi; ⟨g, (hgo _ (by have := h.k1; omega) (by omega)).trans hg, hs⟩, fun y hy1 hy => by
    by_cases e : y = x
    · subst e; exact ⟨g', hgx, by rw [upd_same, Deaf_own]; exact hq⟩
    · obtain ⟨g, hg, hqq⟩ := h.old y hy1 hy
      exact ⟨g, (hgo y hy1 e).trans hg, by rw [upd_ne qo _ e, Deaf_other t (Ne.symm e) _ g_of_ofEvents]; exact hqq⟩, h.tf.mute h.apart h1 hx hm, h.sw, h.so, h.os, h.ow, h.oo, h.chan, h.shut, h.cne, h.cmay, h.chs, h.lawj, h.grp, h.gm, h.glt, h.zn, h.mlt⟩
end

end Go.Proofs.YtiodikflmijhkaaGreatDoor.Farm
end

section
set_option linter.unusedSectionVars false
set_option linter.unusedVariables false
namespace Go.Proofs.YtiodikflmijhkaaGreatDoor.Farm
open Go.Conc Go.ConcN
open Go.ConcR (KK wgBlock WgAt stA smA rd wr mk Payload Aside2 DC0 Bk g_of_ofEvents loc_of_ofEvent ofEvent_loc_mark again_blocked)
variable [Payload]

section
variable (P : Program) (ty : TypeId) (Post : MSt → Goroutine → World → Prop)

inductive CS : MSt → Nat → Nat → Bool → Goroutine → World → Prop
  | run {st : MSt} {N m : Nat} {g : Goroutine} {w : World} : Goes P true (ROf ty st) (DM st) (fun g w => g.status = .running ∧ MStop P ty Post (Sc P ty Post N) st g w) m g w → CS st (N + 1) (m + 1) false g w
  | park {st : MSt} {N c : Nat} {z : Value} {g g₂ : Goroutine} {w : World} : st.tag = .opn false → st.d = 0 → st.chs c → (∃ s r, w.heap[c]? = some (.chan 6 #[] false s r false)) → (∀ w₁, ROf ty st w w₁ → RecvAt P ty (Sc P ty Post N) st c z g g₂ w₁) →
      CS st (N + 1) 0 false (parked g₂ #[rcase c z] (.recv true)) w
  | sem {st : MSt} {N : Nat} {g : Goroutine} {w : World} : st.tag = .w3 → st.d = 1 → (∀ w₁, ROf ty st w w₁ → SemAt P ty (Sc P ty Post N) st g w₁) → CS st (N + 1) 0 true { g with status := .blocked } w

def tgOf : MTag → Bool → CTag
  | .law, _ => .ret
  | .opn false, _ => .kd
  | .opn true, _ => .sp 0 3
  | .w2 vs, _ => .w2 vs
  | .w3, false => .w3
  | .w3, true => .blk
  | .fin, _ => .ke
def D7 (D : Nat → KD) (i : Nat) : WD := ⟨min (D i).stage 7, 0, 0⟩

structure GM (st : MSt) (j : Nat) (D : Nat → KD) (b : Bool) (w : World) : Prop where
  mode : ∃ s m, WgAt ty st.wg w s m ∧ ConcN.Mode j (D7 D) (tgOf st.tag b) s m
  bd : ∀ p, st.tag = .opn p → Vc j (D7 D) + (if p then 1 else 0) ≤ st.bd
  bdm : True

def mu (κ j : Nat) (D : Nat → KD) (qo : Nat → Nat) (N f : Nat) : Nat × Nat := (20 * N + sumTo j (fun i => (D i).stage), f + 2 * (sumTo j (fun i => (D i).fuel) + sumTo κ qo))

def Inv (μ : Nat × Nat) (m : Machine) (t : Trace) : Prop :=
  ∃ (gs : Array Goroutine) (w : World) (sl : Option (Nat × Nat)) (κ j : Nat) (D : Nat → KD) (So : Nat → Nat → Prop) (qo : Nat → Nat) (st : MSt) (N f : Nat) (b : Bool) (a : Goroutine),
    m = crowd gs w sl ∧ gs[0]? = some a ∧ CS P ty Post st N f b a w ∧ Com P ty κ j gs w t D So qo st ∧ (st.tag ≠ .law → GM ty st j D b w) ∧ μ = mu κ j D qo N f
end

section
variable {P : Program} {ty : TypeId} {Post : MSt → Goroutine → World → Prop} {κ j : Nat} {gs : Array Goroutine} {w w' : World} {sl : Option (Nat × Nat)} {t : Trace} {D : Nat → KD} {So : Nat → Nat → Prop} {qo : Nat → Nat} {st : MSt} {N f : Nat} {b : Bool} {a : Goroutine}

theorem CS.status (h : CS P ty Post st N f b a w) : (a.status = .running ∧ 0 < f ∧ b = false) ∨ (a.status = .blocked ∧ f = 0) := by
  cases h with
  | run h => exact .inl ⟨Goes.running (fun _ _ x => x.1) w (ROf.refl ty st w) h, by omega, rfl⟩
  | park _ _ _ _ _ => exact .inr ⟨rfl, rfl⟩
  | sem _ _ _ => exact .inr ⟨rfl, rfl⟩

/-- UNDER ANOTHER's STEP THAT CLOSES NO CHANNEL. -/
theorem CS.woken (h : CS P ty Post st N f b a w) (hR : ROf ty st w w') (hch : ∀ c z g₂, st.chs c → a = parked g₂ #[rcase c z] (.recv true) → w'.heap[c]? = w.heap[c]?) (g g' : Goroutine) :
    ∃ f' b', CS P ty Post st N f' b' (Conc.woken P g g' w' a) w' ∧ f' ≤ f + 1 ∧ (b' = b ∨ (b = true ∧ b' = false)) ∧ (mayWake P g = true → g'.status = .running → b' = false) := by
  cases h with
  | run h =>
    rename_i N m
    refine ⟨m + 1, false, ?_, by omega, .inl rfl, fun _ _ => rfl⟩
    rw [woken_run (Goes.running (fun _ _ x => x.1) w (ROf.refl ty st w) h)]
    exact .run (Goes.rely (ROf.trans ty st) h hR)
  | park h1 h2 h3 h4 h5 =>
    obtain ⟨s, r, hc⟩ := h4
    refine ⟨0, false, ?_, by omega, .inl rfl, fun _ _ => rfl⟩
    have hc' := (hch _ _ _ h3 rfl).trans hc
    rw [woken_recv_open g g' hc']
    exact .park h1 h2 h3 ⟨s, r, hc'⟩ fun w₁ r₁ => h5 w₁ (ROf.trans ty st _ _ _ hR r₁)
  | sem h1 h2 h3 =>
    rename_i N g0
    have h3' : ∀ w₁, ROf ty st w' w₁ → SemAt P ty (Sc P ty Post N) st g0 w₁ := fun w₁ r₁ => h3 w₁ (ROf.trans ty st _ _ _ hR r₁)
    have h0 := h3' w' (ROf.refl ty st w')
    unfold Go.Conc.woken
    split
    · refine ⟨0 + 1, false, ?_, by omega, .inr ⟨rfl, rfl⟩, fun _ _ => rfl⟩
      rw [again_blocked h0.run h0.off]
      exact .run (Goes.stop fun w₁ r₁ => ⟨(h3' w₁ r₁).run, .w3 h1 h2 (h3' w₁ r₁)⟩)
    · rename_i hc
      exact ⟨0, true, .sem h1 h2 h3', by omega, .inl rfl, fun k1 k2 => absurd (by simp [k1, k2]) hc⟩

/-- The world alone has turned. -/
theorem CS.rely (h : CS P ty Post st N f b a w) (hR : ROf ty st w w') (hch : ∀ c z g₂, st.chs c → a = parked g₂ #[rcase c z] (.recv true) → w'.heap[c]? = w.heap[c]?) : CS P ty Post st N f b a w' := by
  cases h with
  | run h => exact .run (Goes.rely (ROf.trans ty st) h hR)
  | park h1 h2 h3 h4 h5 =>
    obtain ⟨s, r, hc⟩ := h4
    exact .park h1 h2 h3 ⟨s, r, (hch _ _ _ h3 rfl).trans hc⟩ fun w₁ r₁ => h5 w₁ (ROf.trans ty st _ _ _ hR r₁)
  | sem h1 h2 h3 => exact .sem h1 h2 fun w₁ r₁ => h3 w₁ (ROf.trans ty st _ _ _ hR r₁)

/-- ITS CHANNEL IS CLOSED: it is let try again. -/
theorem CS.closed {c : Nat} {z : Value} {g₂ : Goroutine} (h : CS P ty Post st N f b (parked g₂ #[rcase c z] (.recv true)) w) (hR : ROf ty st w w') {s r : Nat} (hc : w'.heap[c]? = some (.chan 6 #[] true s r false)) {g g' : Goroutine} (hw : mayWake P g = true) (hg : g'.status = .running) :
    ∃ f', CS P ty Post st N f' false (Conc.woken P g g' w' (parked g₂ #[rcase c z] (.recv true))) w' ∧ f' ≤ f + 1 := by
  generalize hA : parked g₂ #[rcase c z] (.recv true) = A at h
  cases h with
  | run h =>
    have := Goes.running (fun _ _ x => x.1) w (ROf.refl ty st w) h
    rw [← hA] at this; cases this
  | park h1 h2 h3 h4 h5 =>
    rename_i N c' z' g0 g2'
    have eo : (some (#[rcase c z], CommShape.recv true) : Option (Array CommCase × CommShape)) = some (#[rcase c' z'], CommShape.recv true) := congrArg Goroutine.offers hA
    have e1 : rcase c z = rcase c' z' := by simpa using eo
    obtain ⟨rfl, rfl⟩ : c = c' ∧ z = z' := by simpa [rcase] using e1
    have h0 := h5 w' hR
    have ew : Conc.woken P g g' w' (parked g2' #[rcase c z] (.recv true)) = { parked g2' #[rcase c z] (.recv true) with status := .running } := by
      unfold Go.Conc.woken
      rw [if_pos (by simp [hw, hg])]
      exact again_recv_closed hc
    rw [ew]
    refine ⟨0 + 1, .run (Goes.stop fun w₁ r₁ => ⟨rfl, .recv c z g2' h1 h2 h3 ?_⟩), by omega⟩
    have h6 := h5 w₁ (ROf.trans ty st _ _ _ hR r₁)
    exact ⟨rfl, rfl, rfl, rfl, fun w₂ r₂ => let ⟨es, hs, he⟩ := h6.step w₂ r₂; ⟨es, (stepG_same (h := g0) h6.fr.symm h6.cs.symm h6.dy.symm w₂).trans hs, he⟩, h6.some, h6.none⟩
  | sem h1 h2 h3 =>
    have := (h3 w (ROf.refl ty st w)).off
    have eo := congrArg Goroutine.offers hA
    simp only [parked] at eo
    rw [this] at eo; cases eo

theorem RdF_upd {i : Nat} {d' : KD} (h : d'.S = (D i).S) : RdF κ j (upd D i d') So = RdF κ j D So := by
  funext k l
  unfold RdF
  by_cases e : k - κ = i
  · rw [e, upd_same, h]
  · rw [upd_ne D _ e]
theorem deaf_upd {i : Nat} {d' : KD} : (fun x => (upd D i d' x).deaf) = upd (fun x => (D x).deaf) i d'.deaf := by
  funext x
  by_cases e : x = i
  · subst e; simp only [upd_same]
  · rw [upd_ne D _ e, upd_ne _ _ e]

theorem aOf_some (h : st.tag ≠ .law) : aOf st = some (stA st.wg) := by
  unfold aOf
  split
  · exact absurd ‹_› h
  · rfl

/-- What a worker's step leaves of the trace. -/
theorem tf_worker (h : Com P ty κ j gs w t D So qo st) {i : Nat} (hi : i < j) {fn : FuncId} {pos : String} {es : Array Event} {d' : KD} (hSe : d'.S = (D i).S) (hsz : w.heap.size ≤ w'.heap.size)
    (hev : ∀ e ∈ es, EvW' st.grp (some (stA st.wg)) (fun l => ∃ a, l = .cell a ∧ (D i).S a.block) w'.heap.size e) (hd : deafBehind (D i).deaf es = d'.deaf)
    (hst : d'.stage ≤ 6 → RelBy (stA st.wg) (t ++ MemOp.ofEvents (κ + i) fn pos es) (κ + i) t.size ∨ ((D i).stage ≤ 6 ∧ ∀ r, RelBy (stA st.wg) t (κ + i) r → RelBy (stA st.wg) (t ++ MemOp.ofEvents (κ + i) fn pos es) (κ + i) r)) :
    TF κ j w'.heap.size st.grp (RdF κ j (upd D i d') So) st.d (fun x => (upd D i d' x).deaf) (aOf st) (fun x => (upd D i d' x).stage ≤ 6) (t ++ MemOp.ofEvents (κ + i) fn pos es) := by
  rw [RdF_upd hSe, deaf_upd]
  refine h.tf.worker h.k1 h.apart hi hsz (fun e he => ⟨fun x hx => ?_, fun y hy => (hev e he).2.1 y (by rw [← hy, aOf_some (h.notlaw hi)]), (hev e he).2.2⟩) hd (fun x _ e hx => by rw [upd_ne D _ e] at hx; exact hx) (fun hx => ?_)
  · rcases (hev e he).1 x hx with h1 | ⟨⟨y, hy, hs⟩, h1⟩
    · exact .inl h1
    · exact .inr ⟨⟨y, hy, .inr ⟨by omega, by omega, by rw [Nat.add_sub_cancel_left]; exact hs⟩⟩, h1⟩
  · rw [upd_same] at hx
    rcases hst hx with h1 | ⟨h1, h2⟩
    · exact .inl ⟨_, aOf_some (h.notlaw hi), h1⟩
    · refine .inr ⟨h1, fun x r hx' => ?_⟩
      rw [aOf_some (h.notlaw hi)] at hx'
      cases hx'
      exact h2 r

theorem D7_upd {i : Nat} (d' : KD) : D7 (upd D i d') = upd (D7 D) i ⟨min d'.stage 7, 0, 0⟩ := by
  funext x
  by_cases e : x = i
  · subst e; simp only [D7, upd_same]
  · simp only [D7, upd_ne D _ e, upd_ne (D7 D) _ e]

theorem mu_worker {i : Nat} (hi : i < j) {d' : KD} {N' f' : Nat} (hN : N' ≤ N) (h : d'.stage < (D i).stage ∨ (d'.stage = (D i).stage ∧ d'.fuel + 1 = (D i).fuel ∧ f' ≤ f + 1)) : Lt2 (mu κ j (upd D i d') qo N' f') (mu κ j D qo N f) := by
  have e1 := sumTo_upd D d' KD.stage hi
  have e2 := sumTo_upd D d' KD.fuel hi
  unfold mu
  rcases h with h | ⟨h1, h2, h3⟩
  · exact Prod.Lex.left _ _ (by omega)
  · rcases Nat.lt_or_ge N' N with hlt | hge
    · exact Prod.Lex.left _ _ (by omega)
    · have e : 20 * N' + sumTo j (fun x => (upd D i d' x).stage) = 20 * N + sumTo j (fun x => (D x).stage) := by omega
      rw [e]
      exact Prod.Lex.right _ (by omega)

/-- THE MASTER LAW OF A WORKER's OWN STEP. -/
theorem workerGo (ha : gs[0]? = some a) (hcom : Com P ty κ j gs w t D So qo st) {i : Nat} (hi : i < j) {g g' : Goroutine} {es : Array Event} {d' : KD}
    (hg : gs[κ + i]? = some g) (hgo : stepG P false g w = .go g' w' es) (hk : KS P ty st.wg d' g' w') (hc : d'.c = (D i).c)
    (hsz : w.heap.size ≤ w'.heap.size) (hsame : ∀ b, b < w.heap.size → b ≠ st.wg → ¬ (D i).O b → (∀ x, x < j → b ≠ (D x).c) → w'.heap[b]? = w.heap[b]?)
    (hch : ∀ x, x < j → x ≠ i → w'.heap[(D x).c]? = w.heap[(D x).c]?) (hlive : WgLive ty st.wg w → WgLive ty st.wg w')
    (hS : ∀ b, d'.S b → (D i).S b ∨ (b = w.heap.size ∧ ∃ cs t f, w'.heap[b]? = some (.cells cs t f))) (hSc : ∀ b, (D i).S b → ∃ cs t f, w'.heap[b]? = some (.cells cs t f))
    (hO : ∀ b, d'.O b → d'.S b ∧ ((D i).O b ∨ b = w.heap.size)) (hchan : ChanAt w' (st.q (D i).c) d') (hss : d'.stage ≤ 7 → d'.ss = [])
    (htf : TF κ j w'.heap.size st.grp (RdF κ j (upd D i d') So) st.d (fun x => (upd D i d' x).deaf) (aOf st) (fun x => (upd D i d' x).stage ≤ 6) (t ++ MemOp.ofEvents (κ + i) g.frame.fn g.frame.place es))
    (hcs : ∃ f' b', CS P ty Post st N f' b' (Conc.woken P g g' w' a) w' ∧ f' ≤ f + 1 ∧ GM ty st j (upd D i d') b' w')
    (hlt : d'.stage < (D i).stage ∨ (d'.stage = (D i).stage ∧ d'.fuel + 1 = (D i).fuel)) :
    ∃ m₁ ops μ', runT P (crowd gs w sl) (κ + i) = (.next m₁, ops) ∧ Lt2 μ' (mu κ j D qo N f) ∧ Inv P ty Post μ' m₁ (t ++ ops) := by
  obtain ⟨f', b', hcs', hf', hgm⟩ := hcs
  have hk1 := hcom.k1
  have hrun := runT_crowd_go (P := P) (sl := sl) (i := κ + i) hg (by rw [show (κ + i == 0) = false by simp; omega]; exact hgo)
  refine ⟨_, _, mu κ j (upd D i d') qo N f', hrun, mu_worker hi (Nat.le_refl _) (hlt.imp id fun x => ⟨x.1, x.2, hf'⟩), _, w', sl, κ, j, upd D i d', So, qo, { st with q := st.q }, N, f', b', Conc.woken P g g' w' a, rfl, ?_, hcs', ?_, fun _ => hgm, rfl⟩
  · rw [get_map_set _ _ _ _ (by omega), ha]; rfl
  · refine hcom.worker (q' := st.q) hi (by simp) (get_map_set_same _ _ _ (by rw [hcom.size]; omega)) hk (fun x h1 hx => ?_) hc hsz hsame hch hlive hS hSc hO hchan (fun _ _ _ => rfl) hss htf (fun x h1 hx => ?_)
    · rw [get_map_set _ _ _ _ (by omega)]
      cases hgx : gs[x]? with
      | none => rfl
      | some y =>
        rcases Nat.lt_or_ge x κ with hlt' | hge
        · obtain ⟨z, hz, hq⟩ := hcom.old x h1 hlt'
          rw [hgx] at hz; cases hz
          simp [woken_quitsD hq]
        · have hxj : x - κ < j := by have := (Array.getElem?_eq_some_iff.1 hgx).1; rw [hcom.size] at this; omega
          obtain ⟨z, hz, hks⟩ := hcom.wk (x - κ) hxj
          rw [show κ + (x - κ) = x by omega, hgx] at hz; cases hz
          simp [hks.woken]
    · exact Deaf_other t (by omega) _ g_of_ofEvents
end

end Go.Proofs.YtiodikflmijhkaaGreatDoor.Farm
end
