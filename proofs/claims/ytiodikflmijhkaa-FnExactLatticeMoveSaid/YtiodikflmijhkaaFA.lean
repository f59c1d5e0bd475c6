import Derived.Conc.CrowdRun
import Derived.Conc.CrowdComm
import Derived.Conc.Token
import Derived.Below
import Derived.Laws.Rows
import Derived.Conc.CrowdMono
/- One starter and its workers, each of whom sends a list of values over a buffered channel of its own, closes it and says Done; the starter receives from channel after channel until each is closed, and waits. What is asked of each goroutine. No program is named here. -/
namespace Go.Proofs.Ytiodikflmijhkaa.Farm
open Go.Conc Go.ConcN
open Go.ConcR (KK wgBlock WgAt stA smA rd wr mk Payload Aside2 DC0 Bk)

def No : Nat → Loc → Prop := fun _ _ => False

/-- What a worker suffers: the blocks of S stand; the group's block stays one. -/
structure RK (ty : TypeId) (wg : Nat) (S : Nat → Prop) (w w₁ : World) : Prop where
  size : w.heap.size ≤ w₁.heap.size
  keep : ∀ b, S b → w₁.heap[b]? = w.heap[b]?
  live : WgLive ty wg w → WgLive ty wg w₁

theorem RK.refl {ty : TypeId} {wg : Nat} {S : Nat → Prop} (w : World) : RK ty wg S w w := ⟨Nat.le_refl _, fun _ _ => rfl, id⟩
theorem RK.trans {ty : TypeId} {wg : Nat} {S : Nat → Prop} {a b c : World} (h : RK ty wg S a b) (k : RK ty wg S b c) : RK ty wg S a c :=
  ⟨Nat.le_trans h.size k.size, fun x hx => (k.keep x hx).trans (h.keep x hx), k.live ∘ h.live⟩
theorem RK.at {ty : TypeId} {wg : Nat} {S : Nat → Prop} (w : World) (d : Nat) : RK ty wg S w (w.at d) := ⟨Nat.le_refl _, fun _ _ => rfl, id⟩

/-- A worker's entry: it reads cells of S alone; no word. -/
def EvK (S : Nat → Prop) (B : Nat) (e : Event) : Prop :=
  (∀ x, (MemAct.ofEvent e).touch? = some x → ∃ a, x.loc = .cell a ∧ S a.block ∧ x.write = false) ∧ e.loc ≠ .mark .disable ∧ e.loc ≠ .mark .enable ∧ (∀ a, e.loc ≠ .mark (.release a)) ∧ (MemAct.ofEvent e).low B
/-- A worker's idle step: nothing turns but the count of draws. -/
def DK (S : Nat → Prop) (w w' : World) (es : Array Event) : Prop := (∃ d, w' = w.at d) ∧ ∀ e ∈ es, EvK S w.heap.size e

section
variable [Payload] (P : Program) (ty : TypeId) (wg c : Nat)

/-- A worker's stops: a new block of its own · a send of the next value on its channel · the close, behind which it goes on to its Done. 'O': its own blocks; 'S': all that it reads; 'ss': what is still to be sent. -/
inductive KStop (K : (Nat → Prop) → (Nat → Prop) → List Value → Goroutine → World → Prop) (O S : Nat → Prop) (ss : List Value) (g : Goroutine) (w : World) : Prop
  | new (cs : Array Value) (t : TypeId) (g' : Goroutine) : stepG P false g w = .go g' (w.alloc (.cells cs t)) #[] →
      K (fun b => O b ∨ b = w.heap.size) (fun b => S b ∨ b = w.heap.size) ss g' (w.alloc (.cells cs t)) → KStop K O S ss g w
  | send (v z : Value) (r : List Value) (g₂ : Goroutine) (es : Array Event) : ss = v :: r → stepG P false g w = .comm g₂ #[scase c v z] true .send w es → (∀ e ∈ es, EvK S w.heap.size e) →
      K O S r (Conc.served g₂ undef) w → KStop K O S ss g w
  | close (g' : Goroutine) (C n m : Nat) (val : Value) : ss = [] → O C → mayWake P g = true → g'.status = .running → PayAt C n w →
      (∀ buf s r, w.heap[c]? = some (.chan 6 buf false s r false) → stepG P false g w = .go g' (w.setChan c 6 buf true s r false) (closeEvents c)) →
      Goes P false (RW ty wg C n 0 0) (DWs wg No No C n 1) (AtR0 P ty wg C n 0 1 val) m g' w → KStop K O S ss g w

def Wk : Nat → (Nat → Prop) → (Nat → Prop) → List Value → Goroutine → World → Prop
  | 0, _, _, _, _, _ => False
  | N + 1, O, S, ss, g, w => ∃ m, Goes P false (RK ty wg S) (DK S) (fun g w => g.status = .running ∧ KStop P ty wg c (Wk N) O S ss g w) m g w
end

inductive MTag | law | opn (p : Bool) | w2 (vs : Nat) | w3 | fin

/-- What the starter is about. -/
structure MSt where
  tag : MTag
  d : Nat
  wg : Nat
  bd : Nat
  gs : Nat
  grp : Nat → Prop
  may : Nat → Prop
  zone : Nat → Prop
  chs : Nat → Prop
  q : Nat → List Value

/-- What the starter suffers while workers run. -/
structure RM (ty : TypeId) (wg : Nat) (may : Nat → Prop) (w w₁ : World) : Prop where
  tape : w₁.tape = w.tape
  os : w₁.os = w.os
  output : w₁.output = w.output
  size : w.heap.size ≤ w₁.heap.size
  mine : ∀ b, may b → w₁.heap[b]? = w.heap[b]?
  low : ∀ b, b < wg → w₁.heap[b]? = w.heap[b]?
  live : WgLive ty wg w → WgLive ty wg w₁

theorem RM.refl {ty : TypeId} {wg : Nat} {may : Nat → Prop} (w : World) : RM ty wg may w w := ⟨rfl, rfl, rfl, Nat.le_refl _, fun _ _ => rfl, fun _ _ => rfl, id⟩
theorem RM.trans {ty : TypeId} {wg : Nat} {may : Nat → Prop} {a b c : World} (h : RM ty wg may a b) (k : RM ty wg may b c) : RM ty wg may a c :=
  ⟨k.tape.trans h.tape, k.os.trans h.os, k.output.trans h.output, Nat.le_trans h.size k.size, fun x hx => (k.mine x hx).trans (h.mine x hx), fun x hx => (k.low x hx).trans (h.low x hx), k.live ∘ h.live⟩
theorem RM.at {ty : TypeId} {wg : Nat} {may : Nat → Prop} (w : World) (d : Nat) : RM ty wg may w (w.at d) := ⟨rfl, rfl, rfl, Nat.le_refl _, fun _ _ => rfl, fun _ _ => rfl, id⟩

/-- What nobody but the starter turns: its own blocks, and a channel that it has not yet given away. -/
def MSt.mr (st : MSt) (b : Nat) : Prop := st.may b ∨ (st.grp b ∧ ¬ st.chs b ∧ st.wg < b)
def ROf (ty : TypeId) (st : MSt) (w w₁ : World) : Prop := (st.tag = .law → AtRel w w₁) ∧ (st.tag ≠ .law → RM ty st.wg st.mr w w₁)

theorem ROf.refl (ty : TypeId) (st : MSt) (w : World) : ROf ty st w w := ⟨fun _ => AtRel.refl w, fun _ => RM.refl w⟩
theorem ROf.at (ty : TypeId) (st : MSt) (w : World) (d : Nat) : ROf ty st w (w.at d) := ⟨fun _ => ⟨d, rfl⟩, fun _ => RM.at w d⟩
theorem ROf.trans (ty : TypeId) (st : MSt) (a b c : World) (h : ROf ty st a b) (k : ROf ty st b c) : ROf ty st a c :=
  ⟨fun e => atRel_trans _ _ _ (h.1 e) (k.1 e), fun e => RM.trans (h.2 e) (k.2 e)⟩

def ShL (grp : Nat → Prop) : Loc → Prop
  | .cell a => grp a.block
  | .obj r => grp r
  | _ => False

/-- The starter's entry: a shared place is not touched plainly; it writes cells of 'may' alone; no word of deafness, no release. -/
def EvM (st : MSt) (B : Nat) (e : Event) : Prop :=
  (∀ x, (MemAct.ofEvent e).touch? = some x → (ShL st.grp x.loc ∧ x.kind ≠ .plain) ∨ (¬ ShL st.grp x.loc ∧ (x.write = true → (∃ a, x.loc = .cell a ∧ st.may a.block) ∨ ∃ r, x.loc = .obj r ∧ st.may r))) ∧ e.loc ≠ .mark .disable ∧ e.loc ≠ .mark .enable ∧ (∀ a, e.loc ≠ .mark (.release a)) ∧ (MemAct.ofEvent e).low B
structure DM (st : MSt) (w w' : World) (es : Array Event) : Prop where
  size : w.heap.size ≤ w'.heap.size
  law : st.tag ≠ .law → w'.heap.size = w.heap.size
  keep : ∀ b, b < w.heap.size → ¬ st.may b → w'.heap[b]? = w.heap[b]?
  evs : ∀ e ∈ es, EvM st w'.heap.size e

section
variable [Payload] (P : Program) (ty : TypeId) (Post : MSt → Goroutine → World → Prop)

/-- It stands at a receive on one of its workers' channels. -/
structure RecvAt (K : MSt → Goroutine → World → Prop) (st : MSt) (c : Nat) (z : Value) (g g₂ : Goroutine) (w : World) : Prop where
  run : g.status = .running
  fr : g.frame = g₂.frame
  cs : g.callers = g₂.callers
  dy : g.dying = g₂.dying
  step : ∀ w₁, ROf ty st w w₁ → ∃ es, stepG P true g w₁ = .comm g₂ #[rcase c z] true (.recv true) w₁ es ∧ ∀ e ∈ es, EvM st w₁.heap.size e
  some : ∀ v r, st.q c = v :: r → K { st with q := upd st.q c r } (Conc.served g₂ (recvd true v true)) w
  none : st.q c = [] → K st (Conc.served g₂ (recvd true z false)) w

/-- It stands at the semaphore. -/
structure SemAt (K : MSt → Goroutine → World → Prop) (st : MSt) (g : Goroutine) (w : World) : Prop where
  run : g.status = .running
  off : g.offers = none
  wait : ∀ w₁, ROf ty st w w₁ → (∃ s, WgAt ty st.wg w₁ s 0) → stepG P true g w₁ = .go { g with status := .blocked } w₁ #[]
  pass : ∀ w₁, ROf ty st w w₁ → WgAt ty st.wg w₁ 0 1 → ∃ g', stepG P true g w₁ = .go g' (w₁.setCell (smA st.wg) (.int .u32 0)) (semEvents (smA st.wg)) ∧ K { st with tag := .fin } g' (w₁.setCell (smA st.wg) (.int .u32 0))

inductive MStop (K : MSt → Goroutine → World → Prop) (st : MSt) (g : Goroutine) (w : World) : Prop
  | newc (o : Obj) (g' : Goroutine) : st.tag = .opn false → st.d = 0 → stepG P true g w = .go g' (w.alloc o) #[] → K { st with grp := fun b => st.grp b ∨ b = w.heap.size } g' (w.alloc o) → MStop K st g w
  | new (o : Obj) (g' : Goroutine) : st.tag = .opn false → st.d = 0 → stepG P true g w = .go g' (w.alloc o) #[] → K { st with may := fun b => st.may b ∨ b = w.heap.size } g' (w.alloc o) → MStop K st g w
  | wg (g' : Goroutine) (Z may : Nat → Prop) : st.tag = .law → st.d = 0 → stepG P true g w = .go g' (w.alloc (wgBlock ty 0 0)) #[] → (∀ b, st.zone b ∨ w.heap.size ≤ b → Z b) → (∀ b, may b → st.may b ∧ b < w.heap.size) →
      K { st with tag := .opn false, wg := w.heap.size, bd := 0, grp := fun b => st.grp b ∨ b = w.heap.size, may := may, zone := Z, chs := fun _ => False } g' (w.alloc (wgBlock ty 0 0)) → MStop K st g w
  | dis (g' : Goroutine) : st.tag = .opn false → st.d = 0 → stepG P true g w = .go g' w #[mk .disable] → K { st with d := 1 } g' w → MStop K st g w
  | en (g' : Goroutine) : (st.tag = .opn true ∨ st.tag = .fin) → st.d = 1 → stepG P true g w = .go g' w #[mk .enable] → K { st with d := 0 } g' w → MStop K st g w
  | add : st.tag = .opn false → st.d = 1 → st.bd < 1000 → (∀ v : Nat, v < 2147483647 → WgAt ty st.wg w (v * KK) 0 →
      ∃ g', stepG P true g w = .go g' (w.setCell (stA st.wg) (.int .u64 ((v + 1) * KK))) #[rd (stA st.wg), wr (stA st.wg)] ∧ K { st with tag := .opn true, bd := st.bd + 1 } g' (w.setCell (stA st.wg) (.int .u64 ((v + 1) * KK)))) → MStop K st g w
  | go (g' child : Goroutine) (S : Nat → Prop) (c Nw : Nat) (vs : List Value) (may : Nat → Prop) : st.tag = .opn true → st.d = 0 → stepG P true g w = .spawn g' child w #[] → child.status = .running → (∀ b, may b → st.may b) →
      (∀ b, S b → st.zone b ∧ ¬ may b ∧ ¬ st.grp b ∧ (b < st.wg ∨ st.may b) ∧ ∃ cs t f, w.heap[b]? = some (.cells cs t f)) → w.heap[c]? = some (.chan 6 #[] false 0 0 false) → st.grp c → ¬ st.chs c → st.wg < c → vs.length ≤ 6 → Nw ≤ 10 → st.gs < 1000 →
      Wk P ty st.wg c Nw (fun _ => False) S vs child w →
      K { st with tag := .opn false, gs := st.gs + 1, may := may, chs := fun b => st.chs b ∨ b = c, q := upd st.q c vs } g' w → MStop K st g w
  | recv (c : Nat) (z : Value) (g₂ : Goroutine) : st.tag = .opn false → st.d = 0 → st.chs c → RecvAt P ty K st c z g g₂ w → MStop K st g w
  | w1 : st.tag = .opn false → st.d = 1 → (∀ v : Nat, v ≤ st.bd → WgAt ty st.wg w (v * KK) 0 → ∃ g', stepG P true g w = .go g' w #[rd (stA st.wg)] ∧ (v = 0 → K { st with tag := .fin } g' w) ∧ (v ≠ 0 → K { st with tag := .w2 v } g' w)) → MStop K st g w
  | w2 (vs : Nat) : st.tag = .w2 vs → st.d = 1 → (∀ v : Nat, v ≤ vs → WgAt ty st.wg w (v * KK) 0 →
      (v = vs → ∃ g', stepG P true g w = .go g' (w.setCell (stA st.wg) (.int .u64 (v * KK + 1))) #[rd (stA st.wg), wr (stA st.wg)] ∧ K { st with tag := .w3 } g' (w.setCell (stA st.wg) (.int .u64 (v * KK + 1)))) ∧
      (v < vs → ∃ g', stepG P true g w = .go g' w #[rd (stA st.wg)] ∧ K { st with tag := .opn false, bd := vs - 1 } g' w)) → MStop K st g w
  | w3 : st.tag = .w3 → st.d = 1 → SemAt P ty K st g w → MStop K st g w
  | w4 : st.tag = .fin → st.d = 1 → (WgAt ty st.wg w 0 0 → ∃ g', stepG P true g w = .go g' w #[rd (stA st.wg)] ∧ K st g' w) → MStop K st g w
  | acq (g' : Goroutine) (may zone : Nat → Prop) : st.tag = .fin → st.d = 0 → stepG P true g w = .go g' w #[mk (.acquire (stA st.wg))] → (∀ b, st.zone b → b < w.heap.size → zone b) → (∀ b, may b → ¬ zone b ∧ ¬ st.grp b) →
      K { st with tag := .law, may := may, zone := zone } g' w → MStop K st g w
  | cont : st.tag = .law → st.d = 0 → Post st g w → MStop K st g w

def Sc : Nat → MSt → Goroutine → World → Prop
  | 0, _, _, _ => False
  | N + 1, st, g, w => ∃ m, Goes P true (ROf ty st) (DM st) (fun g w => g.status = .running ∧ MStop P ty Post (Sc N) st g w) m g w

variable {P ty Post}
theorem Sc.rely {N : Nat} {st : MSt} {g : Goroutine} {w w₁ : World} (h : Sc P ty Post N st g w) (r : ROf ty st w w₁) : Sc P ty Post N st g w₁ := by
  cases N with
  | zero => exact h
  | succ N =>
    obtain ⟨m, h⟩ := h
    exact ⟨m, Goes.rely (ROf.trans ty st) h r⟩
theorem RecvAt.rely {N c : Nat} {z : Value} {st : MSt} {g g₂ : Goroutine} {w w₁ : World} (h : RecvAt P ty (Sc P ty Post N) st c z g g₂ w) (r : ROf ty st w w₁) : RecvAt P ty (Sc P ty Post N) st c z g g₂ w₁ :=
  ⟨h.run, h.fr, h.cs, h.dy, fun w₂ r₂ => h.step w₂ (ROf.trans ty st _ _ _ r r₂), fun v r' hq => (h.some v r' hq).rely (st := { st with q := upd st.q c r' }) r, fun hq => (h.none hq).rely r⟩
theorem SemAt.rely {N : Nat} {st : MSt} {g : Goroutine} {w w₁ : World} (h : SemAt P ty (Sc P ty Post N) st g w) (r : ROf ty st w w₁) : SemAt P ty (Sc P ty Post N) st g w₁ :=
  ⟨h.run, h.off, fun w₂ r₂ => h.wait w₂ (ROf.trans ty st _ _ _ r r₂), fun w₂ r₂ => h.pass w₂ (ROf.trans ty st _ _ _ r r₂)⟩
theorem Wk.rely {P : Program} {ty : TypeId} {wg c N : Nat} {O S : Nat → Prop} {ss : List Value} {g : Goroutine} {w w₁ : World} (h : Wk P ty wg c N O S ss g w) (r : RK ty wg S w w₁) : Wk P ty wg c N O S ss g w₁ := by
  cases N with
  | zero => exact h
  | succ N =>
    obtain ⟨m, h⟩ := h
    exact ⟨m, Goes.rely (R := RK ty wg S) (fun _ _ _ a b => RK.trans a b) h r⟩
end

/-! ### the trace's families grow -/
section
variable {Sh Sh' : Loc → Prop} {Rd Rd' : Nat → Loc → Prop} {t : Trace} {j : Nat}

/-- A new place, which nobody has touched, joins a family or the shared ones. -/
theorem ct_grow (h : CT Sh No Rd t j) (hs : ∀ l, Sh l → Sh' l) (hs' : ∀ l, Sh' l → Sh l ∨ ∀ i a, touchAt t i = some a → a.loc ≠ l)
    (hr : ∀ k l, Rd k l → Rd' k l) (hr' : ∀ k l, Rd' k l → Rd k l ∨ ∀ i a, touchAt t i = some a → a.loc ≠ l) : CT Sh' No Rd' t j := by
  refine ⟨fun i op x hi hx hsx => ?_, fun k _ _ l hl => hl.elim, fun k k1 kj l hl => ?_, fun l hl hk => ?_, fun l hl _ => ?_, h.nr, h.gs⟩
  · rcases hs' _ hsx with h1 | h1
    · exact h.quiet i op x hi hx h1
    · exact absurd rfl (h1 i x (by rw [touchAt_of hi]; exact hx))
  · rcases hr' k l hl with h1 | h1
    · exact h.rd k k1 kj l h1
    · exact fun i a ha e => absurd e (h1 i a ha)
  · exact h.free l (fun x => hl (hs l x)) fun k k1 kj => ⟨fun x => x.elim, fun x => (hk k k1 kj).2 (hr k l x)⟩
  · exact h.mine l (fun x => hl (hs l x)) fun k _ _ x => x.elim

theorem CT.congr (h : CT Sh No Rd t j) (hr : ∀ k, 1 ≤ k → k ≤ j → ∀ l, Rd' k l ↔ Rd k l) : CT Sh No Rd' t j :=
  ⟨h.quiet, h.own, fun k k1 kj l hl => h.rd k k1 kj l ((hr k k1 kj l).1 hl), fun l hl hk => h.free l hl fun k k1 kj => ⟨(hk k k1 kj).1, fun x => (hk k k1 kj).2 ((hr k k1 kj l).2 x)⟩, h.mine, h.nr, h.gs⟩
end

/-- Whatever cell it touches lies below the bound. -/
def tlow (B : Nat) (x : MemAct) : Prop := ∀ y, x.touch? = some y → (∀ a, y.loc = .cell a → a.block < B) ∧ ∀ r, y.loc = .obj r → r < B
theorem tlow_mono {B B' : Nat} (h : B ≤ B') {x : MemAct} (k : tlow B x) : tlow B' x := fun y h1 => ⟨fun a h2 => Nat.lt_of_lt_of_le ((k y h1).1 a h2) h, fun r h2 => Nat.lt_of_lt_of_le ((k y h1).2 r h2) h⟩
theorem tlow_of_none {B : Nat} {x : MemAct} (h : x.touch? = none) : tlow B x := fun y h1 => by rw [h] at h1; cases h1
theorem tlow_of_low {B : Nat} {x : MemAct} (h : x.low B) : tlow B x := by
  intro y hox
  refine ⟨fun a e => ?_, fun r e => ?_⟩
  · cases x with
    | access ev => simp only [MemAct.touch?, Option.some.injEq] at hox; subst hox; simp only at e; simpa only [MemAct.low, e, Loc.low] using h
    | mark m => cases m <;> simp only [MemAct.touch?, Option.some.injEq, reduceCtorEq] at hox <;> (subst hox; simp only [Loc.cell.injEq] at e; subst e; exact h)
    | _ => simp [MemAct.touch?] at hox
  · cases x with
    | access ev => simp only [MemAct.touch?, Option.some.injEq] at hox; subst hox; simp only at e; simpa only [MemAct.low, e, Loc.low] using h
    | mark m => cases m <;> simp only [MemAct.touch?, Option.some.injEq, reduceCtorEq] at hox <;> (subst hox; cases e)
    | _ => simp [MemAct.touch?] at hox
theorem fresh_of_low {t : Trace} {B : Nat} (h : ∀ op ∈ t, tlow B op.act) {a : Addr} (hb : B ≤ a.block) : ∀ i x, touchAt t i = some x → x.loc ≠ .cell a := by
  intro i x hx e
  obtain ⟨op, hop, hox⟩ := touch_of hx
  have := (h op (Array.mem_of_getElem? hop) x hox).1 a e
  omega
theorem fresh_of_low' {t : Trace} {B : Nat} (h : ∀ op ∈ t, tlow B op.act) {r : Nat} (hb : B ≤ r) : ∀ i x, touchAt t i = some x → x.loc ≠ .obj r := by
  intro i x hx e
  obtain ⟨op, hop, hox⟩ := touch_of hx
  have := (h op (Array.mem_of_getElem? hop) x hox).2 r e
  omega

end Go.Proofs.Ytiodikflmijhkaa.Farm
/- The farm's trace: what is held of it, and how it grows by a worker's step, by the starter's, by a leaver's, by a communication, by a go statement. No program is named here. -/
set_option linter.unusedSectionVars false
set_option linter.unusedVariables false
namespace Go.Proofs.Ytiodikflmijhkaa.Farm
open Go.Conc Go.ConcN
open Go.ConcR (KK wgBlock WgAt stA smA rd wr mk Payload Aside2 DC0 Bk g_of_ofEvents loc_of_ofEvent ofEvent_loc_mark)

structure TF (κ j B : Nat) (grp : Nat → Prop) (Rd : Nat → Loc → Prop) (d0 : Nat) (dw : Nat → Nat) (a : Option Addr) (rl : Nat → Prop) (t : Trace) : Prop where
  ct : CT (ShL grp) No Rd t (κ + j - 1)
  low : ∀ op ∈ t, tlow B op.act
  deaf0 : Deaf t 0 = d0
  deafW : ∀ i, i < j → Deaf t (κ + i) = dw i
  gr : ∃ i0, i0 ≤ t.size ∧ (∀ x, a = some x → ∀ i, i0 ≤ i → t.act? i ≠ some (.mark (.release x))) ∧ ∀ i, i < j → rl i → ∃ x r, a = some x ∧ i0 ≤ r ∧ RelBy x t (κ + i) r
  over : ∀ i g, t.g? i = some g → 1 ≤ g → g < κ → t.counts i → ∃ q, t.g? q = some 0 ∧ HappensBefore t i q

theorem apart_no {Sh : Loc → Prop} {Rd : Nat → Loc → Prop} (h : ∀ k l, Rd k l → ¬ Sh l) : Apart Sh No Rd := ⟨fun _ _ _ x => x.elim, fun _ _ _ x => x.elim, fun _ _ x => x.elim, h⟩

/-- What a worker's step may list. -/
def EvW' (grp : Nat → Prop) (wg : Option Addr) (S : Loc → Prop) (B : Nat) (e : Event) : Prop :=
  (∀ x, (MemAct.ofEvent e).touch? = some x → (ShL grp x.loc ∧ x.kind ≠ .plain ∧ x.kind ≠ .said) ∨ (S x.loc ∧ x.write = false)) ∧ (∀ a, wg = some a → e.loc ≠ .mark (.release a)) ∧ tlow B (MemAct.ofEvent e)

theorem lt_of_g {t : Trace} {i g : Nat} (h : t.g? i = some g) : i < t.size := by
  obtain ⟨op, ho, _⟩ := Option.map_eq_some_iff.1 h
  exact lt_size_of_getElem? ho

theorem ofEvents_mem {g : Nat} {fn : FuncId} {pos : String} {es : Array Event} {op : MemOp} (h : op ∈ MemOp.ofEvents g fn pos es) : ∃ e ∈ es, op = { g, fn, pos, act := .ofEvent e } := by
  rw [ofEvents_eq] at h
  obtain ⟨e, he, rfl⟩ := Array.mem_map.1 h
  exact ⟨e, he, rfl⟩

theorem mute_act {e : Event} (h : e.mute = true) : MemAct.ofEvent e = .mark .disable ∨ MemAct.ofEvent e = .mark .enable := by
  obtain ⟨loc, wr, sy⟩ := e
  cases loc <;> simp_all [Event.mute]
  rename_i m
  cases m <;> simp_all [MemAct.ofEvent]

theorem low_all {t u : Trace} {B B' : Nat} (h : ∀ op ∈ t, tlow B op.act) (hB : B ≤ B') (hu : ∀ op ∈ u, tlow B' op.act) : ∀ op ∈ t ++ u, tlow B' op.act :=
  fun op hop => (Array.mem_append.1 hop).elim (fun x => tlow_mono hB (h op x)) (hu op)
theorem norel_app {t u : Trace} {i0 : Nat} {x : Addr} (h : ∀ i, i0 ≤ i → t.act? i ≠ some (.mark (.release x))) (hu : ∀ op ∈ u, op.act ≠ .mark (.release x)) : ∀ i, i0 ≤ i → (t ++ u).act? i ≠ some (.mark (.release x)) := by
  intro i hi he
  obtain ⟨op, ho, hoa⟩ := Option.map_eq_some_iff.1 he
  rcases getElem?_append_cases ho with ⟨_, ho'⟩ | ⟨_, hou⟩
  · exact h i hi (by rw [act?_of ho', hoa])
  · exact hu op hou hoa

theorem over_app {κ : Nat} {t u : Trace} (h : ∀ i g, t.g? i = some g → 1 ≤ g → g < κ → t.counts i → ∃ q, t.g? q = some 0 ∧ HappensBefore t i q)
    (hu : ∀ op ∈ u, (op.g = 0 ∨ κ ≤ op.g) ∨ op.act.touch? = none) : ∀ i g, (t ++ u).g? i = some g → 1 ≤ g → g < κ → (t ++ u).counts i → ∃ q, (t ++ u).g? q = some 0 ∧ HappensBefore (t ++ u) i q := by
  intro i g hg h1 hk hc
  obtain ⟨x, hx, _⟩ := id hc
  obtain ⟨op, hop, hox⟩ := touch_of hx
  rcases getElem?_append_cases hop with ⟨hi, hop'⟩ | ⟨_, hopu⟩
  · obtain ⟨q, hq, hb⟩ := h i g (by rw [← g?_old (u := u) hi]; exact hg) h1 hk ((counts_old hi).1 hc)
    exact ⟨q, by rw [g?_old (lt_of_g hq)]; exact hq, hb_app u hb⟩
  · have e : op.g = g := by simpa [Trace.g?, hop] using hg
    rcases hu op hopu with (h0 | h0) | h0
    · omega
    · omega
    · rw [h0] at hox; cases hox

section
variable {κ j B B' : Nat} {grp : Nat → Prop} {Rd : Nat → Loc → Prop} {d0 : Nat} {dw : Nat → Nat} {a : Option Addr} {rl : Nat → Prop} {t : Trace}

/-- A step of worker number i. -/
theorem TF.worker (h : TF κ j B grp Rd d0 dw a rl t) (hk : 1 ≤ κ) (hA : ∀ k l, Rd k l → ¬ ShL grp l) {i : Nat} (hi : i < j) {fn : FuncId} {pos : String} {es : Array Event} {dd : Nat} {rl' : Nat → Prop} (hB : B ≤ B')
    (hev : ∀ e ∈ es, EvW' grp a (Rd (κ + i)) B' e) (hd : deafBehind (dw i) es = dd)
    (hrl : ∀ x, x < j → x ≠ i → rl' x → rl x)
    (hrel : rl' i → (∃ x, a = some x ∧ RelBy x (t ++ MemOp.ofEvents (κ + i) fn pos es) (κ + i) t.size) ∨ (rl i ∧ ∀ x r, a = some x → RelBy x t (κ + i) r → RelBy x (t ++ MemOp.ofEvents (κ + i) fn pos es) (κ + i) r)) :
    TF κ j B' grp Rd d0 (upd dw i dd) a rl' (t ++ MemOp.ofEvents (κ + i) fn pos es) := by
  obtain ⟨i0, hi0, hnr, hrl0⟩ := h.gr
  refine ⟨h.ct.appW (apart_no hA) (k := κ + i) (by omega) (by omega) fun op hop => ?_, low_all h.low hB fun op hop => ?_, ?_, fun x hx => ?_, ⟨i0, by simp; omega, fun y hy => norel_app (hnr y hy) fun op hop => ?_, fun x hx hr => ?_⟩, over_app h.over fun op hop => ?_⟩
  · obtain ⟨e, he, rfl⟩ := ofEvents_mem hop
    refine ⟨rfl, fun y hy => ?_⟩
    rcases (hev e he).1 y hy with h1 | h1
    · exact .inl h1
    · exact .inr (.inr h1)
  · obtain ⟨e, he, rfl⟩ := ofEvents_mem hop
    exact (hev e he).2.2
  · rw [Deaf_other t (by omega) _ g_of_ofEvents, h.deaf0]
  · by_cases e : x = i
    · subst e; rw [Deaf_own, h.deafW x hx, upd_same]; exact hd
    · rw [Deaf_other t (by omega) _ g_of_ofEvents, h.deafW x hx, upd_ne dw _ e]
  · obtain ⟨e, he, rfl⟩ := ofEvents_mem hop
    exact fun ee => (hev e he).2.1 y hy (loc_of_ofEvent ee)
  · by_cases e : x = i
    · subst e
      rcases hrel hr with ⟨y, ha, hb⟩ | ⟨h1, h2⟩
      · exact ⟨y, t.size, ha, hi0, hb⟩
      · obtain ⟨y, r, ha, hr0, hb⟩ := hrl0 x hx h1
        exact ⟨y, r, ha, hr0, h2 y r ha hb⟩
    · obtain ⟨y, r, ha, hr0, hb⟩ := hrl0 x hx (hrl x hx e hr)
      exact ⟨y, r, ha, hr0, hb.appOther g_of_ofEvents (by omega)⟩
  · obtain ⟨e, he, rfl⟩ := ofEvents_mem hop
    exact .inl (.inr (by simp))

/-- A step of the starter's. -/
theorem TF.main (h : TF κ j B grp Rd d0 dw a rl t) (hk : 1 ≤ κ) (hA : ∀ k l, Rd k l → ¬ ShL grp l) {fn : FuncId} {pos : String} {es : Array Event} (hB : B ≤ B')
    (hev : ∀ e ∈ es, (∀ x, (MemAct.ofEvent e).touch? = some x → (ShL grp x.loc ∧ x.kind ≠ .plain) ∨ (¬ ShL grp x.loc ∧ (x.write = true → ∀ k, 1 ≤ k → k ≤ κ + j - 1 → ¬ Rd k x.loc))) ∧ (∀ a, e.loc ≠ .mark (.release a)) ∧ (MemAct.ofEvent e).low B') :
    TF κ j B' grp Rd (deafBehind d0 es) dw a rl (t ++ MemOp.ofEvents 0 fn pos es) := by
  obtain ⟨i0, hi0, hnr, hrl0⟩ := h.gr
  refine ⟨h.ct.app0 (apart_no hA) fun op hop => ?_, low_all h.low hB fun op hop => ?_, ?_, fun x hx => ?_, ⟨i0, by simp; omega, fun y hy => norel_app (hnr y hy) fun op hop => ?_, fun x hx hr => ?_⟩, over_app h.over fun op hop => ?_⟩
  · obtain ⟨e, he, rfl⟩ := ofEvents_mem hop
    refine ⟨rfl, fun y hy => ?_⟩
    rcases (hev e he).1 y hy with h1 | h1
    · exact .inl h1
    · exact .inr ⟨h1.1, fun _ _ _ x => x.elim, h1.2⟩
  · obtain ⟨e, he, rfl⟩ := ofEvents_mem hop
    exact tlow_of_low (hev e he).2.2
  · rw [Deaf_own, h.deaf0]
  · rw [Deaf_other t (g' := 0) (by omega) _ g_of_ofEvents, h.deafW x hx]
  · obtain ⟨e, he, rfl⟩ := ofEvents_mem hop
    exact fun ee => (hev e he).2.1 y (loc_of_ofEvent ee)
  · obtain ⟨y, r, ha, hr0, hb⟩ := hrl0 x hx hr
    exact ⟨y, r, ha, hr0, hb.appOther (g := 0) g_of_ofEvents (by omega)⟩
  · obtain ⟨e, he, rfl⟩ := ofEvents_mem hop
    exact .inl (.inl rfl)

/-- Operations that touch nothing and say no word: a communication. -/
theorem TF.comm (h : TF κ j B grp Rd d0 dw a rl t) (hk : 1 ≤ κ) (hA : ∀ k l, Rd k l → ¬ ShL grp l) {u : Trace} (hB : B ≤ B') (hg : ∀ op ∈ u, op.g ≤ κ + j - 1) (hn : ∀ op ∈ u, op.act.touch? = none)
    (hs : ∀ op ∈ u, op.act ≠ .mark .disable ∧ op.act ≠ .mark .enable ∧ ∀ x, op.act ≠ .mark (.release x)) : TF κ j B' grp Rd d0 dw a rl (t ++ u) := by
  obtain ⟨i0, hi0, hnr, hrl0⟩ := h.gr
  have nt : ∀ op ∈ u, ∀ b, op.act.touch? = some b → False := fun op hop b hb => by rw [hn op hop] at hb; cases hb
  refine ⟨⟨h.ct.quiet.app fun op hop x hx _ => (nt op hop x hx).elim, fun _ _ _ _ x => x.elim, fun k k1 kj l hl => (h.ct.rd k k1 kj l hl).app fun op hop b hb _ _ => (nt op hop b hb).elim, fun l hs hl => (h.ct.free l hs hl).app fun op hop b hb _ => (nt op hop b hb).elim,
      fun l hs hl => (h.ct.mine l hs hl).app fun op hop b hb _ _ => (nt op hop b hb).elim, fun said => noRace_appendMute (h.ct.nr said) hn, fun i op hi => ?_⟩, low_all h.low hB fun op hop => tlow_of_none (hn op hop), ?_, fun x hx => ?_, ⟨i0, by simp; omega, fun y hy => norel_app (hnr y hy) fun op hop => (hs op hop).2.2 y, fun x hx hr => ?_⟩, over_app h.over fun op hop => .inr (hn op hop)⟩
  · rcases getElem?_append_cases hi with ⟨_, hi'⟩ | ⟨_, hu⟩
    · exact h.ct.gs i op hi'
    · exact hg op hu
  · rw [Deaf_still t 0 u fun op hop => ⟨(hs op hop).1, (hs op hop).2.1⟩, h.deaf0]
  · rw [Deaf_still t _ u fun op hop => ⟨(hs op hop).1, (hs op hop).2.1⟩, h.deafW x hx]
  · obtain ⟨y, r, ha, hr0, hb⟩ := hrl0 x hx hr
    refine ⟨y, r, ha, hr0, hb.app fun i hi hgi hc => ?_⟩
    obtain ⟨b, hb', _⟩ := hc
    obtain ⟨op, hop, hob⟩ := touch_of hb'
    rcases getElem?_append_cases hop with ⟨hlt, _⟩ | ⟨_, hu⟩
    · omega
    · exact nt op hu b hob

/-- A leaver's mute words. -/
theorem TF.mute (h : TF κ j B grp Rd d0 dw a rl t) (hA : ∀ k l, Rd k l → ¬ ShL grp l) {g : Nat} (hg : 1 ≤ g) (hgκ : g < κ) {fn : FuncId} {pos : String} {es : Array Event} (hm : ∀ e ∈ es, e.mute = true) : TF κ j B grp Rd d0 dw a rl (t ++ MemOp.ofEvents g fn pos es) := by
  obtain ⟨i0, hi0, hnr, hrl0⟩ := h.gr
  have nt : ∀ op ∈ MemOp.ofEvents g fn pos es, op.act.touch? = none := fun op hop => by obtain ⟨e, he, rfl⟩ := ofEvents_mem hop; exact touch_mute (hm e he)
  have nt' : ∀ op ∈ MemOp.ofEvents g fn pos es, ∀ b, op.act.touch? = some b → False := fun op hop b hb => by rw [nt op hop] at hb; cases hb
  refine ⟨⟨h.ct.quiet.app fun op hop x hx _ => (nt' op hop x hx).elim, fun _ _ _ _ x => x.elim, fun k k1 kj l hl => (h.ct.rd k k1 kj l hl).app fun op hop b hb _ _ => (nt' op hop b hb).elim, fun l hs hl => (h.ct.free l hs hl).app fun op hop b hb _ => (nt' op hop b hb).elim,
      fun l hs hl => (h.ct.mine l hs hl).app fun op hop b hb _ _ => (nt' op hop b hb).elim, fun said => noRace_appendMute (h.ct.nr said) nt, fun i op hi => ?_⟩, low_all h.low (Nat.le_refl _) fun op hop => tlow_of_none (nt op hop), ?_, fun x hx => ?_, ⟨i0, by simp; omega, fun y hy => norel_app (hnr y hy) fun op hop => ?_, fun x hx hr => ?_⟩, over_app h.over fun op hop => .inr (nt op hop)⟩
  · rcases getElem?_append_cases hi with ⟨_, hi'⟩ | ⟨_, hu⟩
    · exact h.ct.gs i op hi'
    · obtain ⟨e, _, rfl⟩ := ofEvents_mem hu; simp; omega
  · rw [Deaf_other t (by omega) _ g_of_ofEvents, h.deaf0]
  · rw [Deaf_other t (by omega) _ g_of_ofEvents, h.deafW x hx]
  · obtain ⟨e, he, rfl⟩ := ofEvents_mem hop
    rcases mute_act (hm e he) with x | x <;> (simp only [x]; simp)
  · obtain ⟨y, r, ha, hr0, hb⟩ := hrl0 x hx hr
    exact ⟨y, r, ha, hr0, hb.appOther g_of_ofEvents (by omega)⟩

/-- A go statement: worker number j is started; what it reads the starter knows. -/
theorem TF.fork (h : TF κ j B grp Rd 0 dw a rl t) (hk : 1 ≤ κ) (hA : ∀ k l, Rd k l → ¬ ShL grp l) {x y : MemOp} (hx : x.g = 0 ∧ x.act = .go (κ + j)) (hy : y.g = κ + j ∧ y.act = .start) {rl' : Nat → Prop} (hrl : ∀ i, i < j → rl' i → rl i) (hj : ¬ rl' j) :
    TF κ (j + 1) B grp Rd 0 (upd dw j 0) a rl' (t ++ #[x, y]) := by
  obtain ⟨i0, hi0, hnr, hrl0⟩ := h.gr
  have hm : ∀ op ∈ #[x, y], op = x ∨ op = y := by intro op hop; simpa using hop
  have hst : ∀ op ∈ #[x, y], op.act ≠ .mark .disable ∧ op.act ≠ .mark .enable := by
    intro op hop
    rcases hm op hop with rfl | rfl
    · rw [hx.2]; exact ⟨by simp, by simp⟩
    · rw [hy.2]; exact ⟨by simp, by simp⟩
  have e1 : κ + j - 1 + 1 = κ + j := by omega
  have hct := h.ct.fork (apart_no hA) (x := x) (y := y) (by rw [e1]; exact hx) (by rw [e1]; exact hy) h.deaf0
  rw [e1] at hct
  refine ⟨hct, low_all h.low (Nat.le_refl _) fun op hop => ?_, by rw [Deaf_still t 0 _ hst, h.deaf0], fun i hi => ?_, ⟨i0, by simp; omega, fun z hz => norel_app (hnr z hz) fun op hop => ?_, fun i hi hr => ?_⟩, over_app h.over fun op hop => ?_⟩
  · rcases hm op hop with rfl | rfl
    · rw [hx.2]; exact tlow_of_none rfl
    · rw [hy.2]; exact tlow_of_none rfl
  · rw [Deaf_still t _ _ hst]
    rcases Nat.lt_or_ge i j with hlt | hge
    · rw [h.deafW i hlt, upd_ne dw _ (by omega)]
    · obtain rfl : i = j := by omega
      rw [upd_same]
      exact Deaf_absent fun a op ha e => by have := h.ct.gs a op ha; omega
  · rcases hm op hop with rfl | rfl
    · rw [hx.2]; simp
    · rw [hy.2]; simp
  · rcases Nat.lt_or_ge i j with hlt | hge
    · obtain ⟨z, r, ha, hr0, hb⟩ := hrl0 i hlt (hrl i hlt hr)
      refine ⟨z, r, ha, hr0, hb.appNot fun op hop => ?_⟩
      rcases hm op hop with rfl | rfl
      · rw [hx.1]; omega
      · rw [hy.1]; omega
    · obtain rfl : i = j := by omega
      exact absurd hr hj
  · rcases hm op hop with rfl | rfl
    · exact .inr (by rw [hx.2]; rfl)
    · exact .inr (by rw [hy.2]; rfl)

/-- A new block. -/
theorem TF.alloc (h : TF κ j B grp Rd d0 dw a rl t) {grp' : Nat → Prop} {Rd' : Nat → Loc → Prop} (hg : ∀ b, grp b → grp' b) (hg' : ∀ b, grp' b → grp b ∨ B ≤ b)
    (hr : ∀ k l, Rd k l → Rd' k l) (hr' : ∀ k l, Rd' k l → Rd k l ∨ ∃ a, l = .cell a ∧ B ≤ a.block) (hB : B ≤ B') : TF κ j B' grp' Rd' d0 dw a rl t := by
  refine ⟨ct_grow h.ct (fun l hl => ?_) (fun l hl => ?_) hr (fun k l hl => ?_), fun op hop => tlow_mono hB (h.low op hop), h.deaf0, h.deafW, h.gr, h.over⟩
  · cases l <;> simp only [ShL] at hl ⊢ <;> first | exact hg _ hl | exact hl.elim
  · cases l with
    | cell x =>
      simp only [ShL] at hl ⊢
      rcases hg' _ hl with h1 | h1
      · exact .inl h1
      · exact .inr fun i y hy => fresh_of_low h.low h1 i y hy
    | obj r =>
      simp only [ShL] at hl ⊢
      rcases hg' _ hl with h1 | h1
      · exact .inl h1
      · exact .inr fun i y hy => fresh_of_low' h.low h1 i y hy
    | _ => exact hl.elim
  · rcases hr' k l hl with h1 | ⟨x, rfl, h1⟩
    · exact .inl h1
    · exact .inr fun i y hy => fresh_of_low h.low h1 i y hy
end

end Go.Proofs.Ytiodikflmijhkaa.Farm
/- The farm: where each worker stands; what holds of all of them together; how it is kept by a worker's step, by the starter's, by a leaver's. No program is named here. -/
set_option linter.unusedSectionVars false
set_option linter.unusedVariables false
namespace Go.Proofs.Ytiodikflmijhkaa.Farm
open Go.Conc Go.ConcN
open Go.ConcR (KK wgBlock WgAt stA smA rd wr mk Payload Aside2 DC0 Bk g_of_ofEvents loc_of_ofEvent ofEvent_loc_mark)
variable [Payload]

structure KD where
  stage : Nat
  fuel : Nat
  deaf : Nat
  S : Nat → Prop
  O : Nat → Prop
  c : Nat
  ss : List Value

/-- Where a worker stands: in its script (stage 8 and what is left of it), or behind its close. -/
inductive KS (P : Program) (ty : TypeId) (wg : Nat) : KD → Goroutine → World → Prop
  | scr {N m c : Nat} {S O : Nat → Prop} {ss : List Value} {g : Goroutine} {w : World} : N ≤ 10 → Goes P false (RK ty wg S) (DK S) (fun g w => g.status = .running ∧ KStop P ty wg c (Wk P ty wg c N) O S ss g w) m g w → KS P ty wg ⟨8 + N, m, 0, S, O, c, ss⟩ g w
  | lib {C n s m d c : Nat} {v : Value} {S O : Nat → Prop} {g : Goroutine} {w : World} : O C → s ≤ 7 → PayAt C n w → WSit P ty wg C n No No 0 1 v s m d g w → KS P ty wg ⟨s, m, d, S, O, c, []⟩ g w

section
variable {P : Program} {ty : TypeId} {wg : Nat} {d : KD} {g : Goroutine} {w w₁ : World}

theorem KS.rely (h : KS P ty wg d g w) (hOS : ∀ b, d.O b → d.S b) (r : RK ty wg d.S w w₁) : KS P ty wg d g w₁ := by
  cases h with
  | scr hN h => exact .scr hN (Goes.rely (R := RK ty wg _) (fun _ _ _ a b => RK.trans a b) h r)
  | lib hC h7 hp h =>
    rename_i C n s m d c v S O
    have e := r.keep C (hOS C hC)
    obtain ⟨cs, h1, h2⟩ := hp
    exact .lib hC h7 ⟨cs, e.trans h1, h2⟩ (h.rely ⟨fun b hb => absurd hb (Nat.not_lt_zero _), r.live, fun ⟨cs, h1, h2⟩ => ⟨cs, e.trans h1, h2⟩, cell_of_block e _⟩)

theorem KS.status (h : KS P ty wg d g w) : g.status = .running ∨ g.status = .finished := by
  cases h with
  | scr _ h => exact .inl (Goes.running (fun _ _ x => x.1) w (RK.refl w) h)
  | lib _ _ _ h => exact h.status

theorem KS.woken (h : KS P ty wg d g w) (a a' : Goroutine) (w' : World) : Conc.woken P a a' w' g = g := by
  unfold Go.Conc.woken
  split
  · exact again_running _ h.status
  · rfl

theorem KS.running_of (h : KS P ty wg d g w) (hs : d.stage ≠ 1) : g.status = .running := by
  cases h with
  | scr _ h => exact Goes.running (fun _ _ x => x.1) w (RK.refl w) h
  | lib _ _ _ h => exact h.running_of hs
end

def aOf (st : MSt) : Option Addr := match st.tag with | .law => none | _ => some (stA st.wg)
def RdF (κ j : Nat) (D : Nat → KD) (So : Nat → Nat → Prop) (k : Nat) (l : Loc) : Prop := ∃ a, l = .cell a ∧ ((k < κ ∧ So k a.block) ∨ (κ ≤ k ∧ k < κ + j ∧ (D (k - κ)).S a.block))

def ChanAt (w : World) (q : List Value) (d : KD) : Prop := ∃ buf s r, w.heap[d.c]? = some (.chan 6 buf (decide (d.stage ≤ 7)) s r false) ∧ q = buf.toList ++ d.ss ∧ q.length ≤ 6

structure Com (P : Program) (ty : TypeId) (κ j : Nat) (gs : Array Goroutine) (w : World) (t : Trace) (D : Nat → KD) (So : Nat → Nat → Prop) (qo : Nat → Nat) (st : MSt) : Prop where
  size : gs.size = κ + j
  k1 : 1 ≤ κ
  gsz : st.gs = κ + j
  j1 : j ≤ 1000
  wk : ∀ i, i < j → ∃ g, gs[κ + i]? = some g ∧ KS P ty st.wg (D i) g w
  old : ∀ i, 1 ≤ i → i < κ → ∃ g, gs[i]? = some g ∧ QuitsD P (qo i) (Deaf t i) g
  tf : TF κ j w.heap.size st.grp (RdF κ j D So) st.d (fun i => (D i).deaf) (aOf st) (fun i => (D i).stage ≤ 6) t
  sw : ∀ i, i < j → ∀ b, (D i).S b → st.zone b ∧ ¬ st.may b ∧ ¬ st.grp b ∧ b < w.heap.size ∧ ∃ cs t f, w.heap[b]? = some (.cells cs t f)
  so : ∀ k, k < κ → ∀ b, So k b → st.zone b ∧ ¬ st.may b ∧ ¬ st.grp b ∧ b < w.heap.size
  os : ∀ i, i < j → ∀ b, (D i).O b → (D i).S b
  ow : ∀ i, i < j → ∀ b, (D i).O b → st.wg < b
  oo : ∀ i i', i < j → i' < j → i ≠ i' → ∀ b, (D i).O b → ¬ (D i').S b
  chan : ∀ i, i < j → ChanAt w (st.q (D i).c) (D i)
  shut : ∀ i, i < j → (D i).stage ≤ 7 → (D i).ss = []
  cne : ∀ i i', i < j → i' < j → (D i).c = (D i').c → i = i'
  cmay : ∀ i, i < j → st.grp (D i).c ∧ st.wg < (D i).c ∧ st.chs (D i).c
  chs : ∀ c, st.tag ≠ .law → st.chs c → ∃ i, i < j ∧ (D i).c = c
  lawj : st.tag = .law → j = 0
  grp : st.tag ≠ .law → st.grp st.wg ∧ st.wg < w.heap.size
  gm : ∀ b, st.may b → ¬ st.grp b
  glt : ∀ b, st.grp b → b < w.heap.size
  zn : st.tag ≠ .law → ∀ b, st.wg ≤ b → st.zone b
  mlt : st.tag ≠ .law → ∀ b, st.may b → b < w.heap.size

section
variable {P : Program} {ty : TypeId} {κ j : Nat} {gs gs' : Array Goroutine} {w w' : World} {t t' : Trace} {D : Nat → KD} {So : Nat → Nat → Prop} {qo : Nat → Nat} {st st' : MSt}

theorem Com.notlaw (h : Com P ty κ j gs w t D So qo st) {i : Nat} (hi : i < j) : st.tag ≠ .law := fun e => by have := h.lawj e; omega

theorem Com.cm (h : Com P ty κ j gs w t D So qo st) {i : Nat} (hi : i < j) : ¬ st.may (D i).c := fun x => h.gm _ x (h.cmay i hi).1

theorem Com.apart (h : Com P ty κ j gs w t D So qo st) : ∀ k l, RdF κ j D So k l → ¬ ShL st.grp l := by
  rintro k l ⟨a, rfl, ⟨hk, hs⟩ | ⟨h1, h2, hs⟩⟩
  · exact (h.so k hk _ hs).2.2.1
  · exact (h.sw (k - κ) (by omega) _ hs).2.2.1

theorem Com.ce (h : Com P ty κ j gs w t D So qo st) {i x : Nat} (hi : i < j) (hx : x < j) : ¬ (D i).S (D x).c := fun hs => by
  obtain ⟨_, _, _, _, cs, t, f, hb⟩ := h.sw i hi _ hs
  obtain ⟨buf, s, r, hc, _⟩ := h.chan x hx
  rw [hb] at hc; cases hc
theorem Com.wgS (h : Com P ty κ j gs w t D So qo st) {i : Nat} (hi : i < j) {b : Nat} (hs : (D i).S b) : b ≠ st.wg := fun e => (h.sw i hi b hs).2.2.1 (e ▸ (h.grp (h.notlaw hi)).1)

/-- WHATEVER STEP OF WORKER NUMBER i. -/
theorem Com.worker (h : Com P ty κ j gs w t D So qo st) {i : Nat} (hi : i < j) {d' : KD} {q' : Nat → List Value} {g' : Goroutine}
    (hgs : gs'.size = gs.size) (hgi : gs'[κ + i]? = some g') (hk : KS P ty st.wg d' g' w') (hgo : ∀ x, 1 ≤ x → x ≠ κ + i → gs'[x]? = gs[x]?) (hc : d'.c = (D i).c)
    (hsz : w.heap.size ≤ w'.heap.size) (hsame : ∀ b, b < w.heap.size → b ≠ st.wg → ¬ (D i).O b → (∀ x, x < j → b ≠ (D x).c) → w'.heap[b]? = w.heap[b]?)
    (hch : ∀ x, x < j → x ≠ i → w'.heap[(D x).c]? = w.heap[(D x).c]?) (hlive : WgLive ty st.wg w → WgLive ty st.wg w')
    (hS : ∀ b, d'.S b → (D i).S b ∨ (b = w.heap.size ∧ ∃ cs t f, w'.heap[b]? = some (.cells cs t f))) (hSc : ∀ b, (D i).S b → ∃ cs t f, w'.heap[b]? = some (.cells cs t f))
    (hO : ∀ b, d'.O b → d'.S b ∧ ((D i).O b ∨ b = w.heap.size)) (hchan : ChanAt w' (q' (D i).c) d') (hq : ∀ x, x < j → x ≠ i → q' (D x).c = st.q (D x).c) (hss : d'.stage ≤ 7 → d'.ss = [])
    (htf : TF κ j w'.heap.size st.grp (RdF κ j (upd D i d') So) st.d (fun x => (upd D i d' x).deaf) (aOf st) (fun x => (upd D i d' x).stage ≤ 6) t') (hdo : ∀ x, 1 ≤ x → x < κ → Deaf t' x = Deaf t x) :
    Com P ty κ j gs' w' t' (upd D i d') So qo { st with q := q' } := by
  have hl := h.notlaw hi
  have szlt : ∀ b, (D i).S b ∨ b = w.heap.size → b = w.heap.size ∨ b < w.heap.size := fun b hb => hb.elim (fun x => .inr (h.sw i hi b x).2.2.2.1) .inl
  have same' : ∀ x, x < j → x ≠ i → ∀ b, (D x).S b → w'.heap[b]? = w.heap[b]? := fun x hx e b hb =>
    hsame b (h.sw x hx b hb).2.2.2.1 (h.wgS hx hb) (fun ho => h.oo i x hi hx (Ne.symm e) b ho hb) (fun y hy e' => h.ce hx hy (e' ▸ hb))
  have lt' : ∀ b cs t f, w'.heap[b]? = some (.cells cs t f) → b < w'.heap.size := fun b cs t f hb => (Array.getElem?_eq_some_iff.1 hb).1
  refine ⟨hgs.trans h.size, h.k1, h.gsz, h.j1, fun x hx => ?_, fun x h1 hx => ?_, htf, fun x hx b hb => ?_, fun k hk' b hb => ?_, fun x hx b hb => ?_, fun x hx b hb => ?_, fun x y hx hy e b ho hs => ?_, fun x hx => ?_, fun x hx h7 => ?_, fun x y hx hy e => ?_, fun x hx => ?_, fun c hl' hcc => ?_, h.lawj, fun hl' => ⟨(h.grp hl').1, Nat.lt_of_lt_of_le (h.grp hl').2 hsz⟩, h.gm, fun b hb => Nat.lt_of_lt_of_le (h.glt b hb) hsz, h.zn, fun hl' b hb => Nat.lt_of_lt_of_le (h.mlt hl' b hb) hsz⟩
  · by_cases e : x = i
    · subst e; exact ⟨g', hgi, by rw [upd_same]; exact hk⟩
    · obtain ⟨g, hg, hks⟩ := h.wk x hx
      refine ⟨g, (hgo _ (by have := h.k1; omega) (by omega)).trans hg, ?_⟩
      rw [upd_ne D _ e]
      exact hks.rely (h.os x hx) ⟨hsz, same' x hx e, hlive⟩
  · obtain ⟨g, hg, hq⟩ := h.old x h1 hx
    exact ⟨g, (hgo x h1 (by omega)).trans hg, by rw [hdo x h1 hx]; exact hq⟩
  · by_cases e : x = i
    · subst e
      rw [upd_same] at hb
      rcases hS b hb with h1 | ⟨rfl, cs, t, f, h1⟩
      · obtain ⟨a1, a2, a3, a4, _⟩ := h.sw x hi b h1
        exact ⟨a1, a2, a3, Nat.lt_of_lt_of_le a4 hsz, hSc b h1⟩
      · exact ⟨h.zn hl _ (Nat.le_of_lt (h.grp hl).2), fun hm => Nat.lt_irrefl _ (h.mlt hl _ hm), fun hm => Nat.lt_irrefl _ (h.glt _ hm), lt' _ _ _ _ h1, cs, t, f, h1⟩
    · rw [upd_ne D _ e] at hb
      obtain ⟨a1, a2, a3, a4, cs, t, f, h1⟩ := h.sw x hx b hb
      exact ⟨a1, a2, a3, Nat.lt_of_lt_of_le a4 hsz, cs, t, f, (same' x hx e b hb).trans h1⟩
  · obtain ⟨a1, a2, a3, a4⟩ := h.so k hk' b hb
    exact ⟨a1, a2, a3, Nat.lt_of_lt_of_le a4 hsz⟩
  · by_cases e : x = i
    · subst e; rw [upd_same] at hb ⊢; exact (hO b hb).1
    · rw [upd_ne D _ e] at hb ⊢; exact h.os x hx b hb
  · by_cases e : x = i
    · subst e
      rw [upd_same] at hb
      rcases (hO b hb).2 with h1 | rfl
      · exact h.ow x hx b h1
      · exact (h.grp hl).2
    · rw [upd_ne D _ e] at hb; exact h.ow x hx b hb
  · by_cases e1 : x = i
    · subst e1
      rw [upd_same] at ho
      rw [upd_ne D _ (Ne.symm e)] at hs
      rcases (hO b ho).2 with h1 | rfl
      · exact h.oo x y hx hy e b h1 hs
      · exact Nat.lt_irrefl _ (h.sw y hy _ hs).2.2.2.1
    · rw [upd_ne D _ e1] at ho
      by_cases e2 : y = i
      · subst e2
        rw [upd_same] at hs
        rcases hS b hs with h1 | ⟨rfl, _⟩
        · exact h.oo x y hx hy e b ho h1
        · exact Nat.lt_irrefl _ (h.sw x hx _ (h.os x hx _ ho)).2.2.2.1
      · rw [upd_ne D _ e2] at hs
        exact h.oo x y hx hy e b ho hs
  · by_cases e : x = i
    · subst e; rw [upd_same, hc]; exact hchan
    · rw [upd_ne D _ e]
      show ChanAt w' (q' (D x).c) (D x)
      rw [hq x hx e]
      obtain ⟨buf, s, r, h1, h2⟩ := h.chan x hx
      exact ⟨buf, s, r, (hch x hx e).trans h1, h2⟩
  · by_cases e : x = i
    · subst e; rw [upd_same] at h7 ⊢; exact hss h7
    · rw [upd_ne D _ e] at h7 ⊢; exact h.shut x hx h7
  · have ec : ∀ z, (upd D i d' z).c = (D z).c := fun z => by
      by_cases e' : z = i
      · subst e'; rw [upd_same]; exact hc
      · rw [upd_ne D _ e']
    rw [ec, ec] at e
    exact h.cne x y hx hy e
  · have ec : (upd D i d' x).c = (D x).c := by
      by_cases e' : x = i
      · subst e'; rw [upd_same]; exact hc
      · rw [upd_ne D _ e']
    rw [ec]
    exact h.cmay x hx
  · obtain ⟨x, hx, e⟩ := h.chs c hl' hcc
    refine ⟨x, hx, ?_⟩
    by_cases e' : x = i
    · subst e'; rw [upd_same]; exact hc.trans e
    · rw [upd_ne D _ e']; exact e

/-- WHATEVER STEP OF THE STARTER's THAT STARTS NOBODY. -/
theorem Com.main (h : Com P ty κ j gs w t D So qo st)
    (hgs : gs'.size = gs.size) (hgo : ∀ x, 1 ≤ x → gs'[x]? = gs[x]?) (e1 : st'.wg = st.wg) (e2 : st'.grp = st.grp) (e3 : st'.zone = st.zone) (e4 : st'.chs = st.chs) (e5 : st'.gs = st.gs) (e6 : st'.tag = .law ↔ st.tag = .law)
    (hm : ∀ b, st'.may b → st.may b ∨ (b = w.heap.size ∧ w.heap.size < w'.heap.size))
    (hsz : w.heap.size ≤ w'.heap.size) (hsame : ∀ b, b < w.heap.size → b ≠ st.wg → ¬ st.may b → (∀ x, x < j → b ≠ (D x).c) → w'.heap[b]? = w.heap[b]?)
    (hlive : st.tag ≠ .law → WgLive ty st.wg w → WgLive ty st.wg w') (hchan : ∀ x, x < j → ChanAt w' (st'.q (D x).c) (D x))
    (htf : TF κ j w'.heap.size st.grp (RdF κ j D So) st'.d (fun x => (D x).deaf) (aOf st) (fun x => (D x).stage ≤ 6) t') (hdo : ∀ x, 1 ≤ x → x < κ → Deaf t' x = Deaf t x) :
    Com P ty κ j gs' w' t' D So qo st' := by
  have same' : ∀ x, x < j → ∀ b, (D x).S b → w'.heap[b]? = w.heap[b]? := fun x hx b hb =>
    hsame b (h.sw x hx b hb).2.2.2.1 (h.wgS hx hb) (h.sw x hx b hb).2.1 (fun y hy e' => h.ce hx hy (e' ▸ hb))
  have ea : aOf st' = aOf st := by
    unfold aOf
    rw [e1]
    by_cases e : st.tag = .law
    · rw [e, e6.2 e]
    · have e' : st'.tag ≠ .law := fun x => e (e6.1 x)
      cases h1 : st.tag <;> cases h2 : st'.tag <;> first | rfl | exact absurd h1 e | exact absurd h2 e'
  have ml : ∀ b, b < w.heap.size → ¬ st.may b → ¬ st'.may b := fun b hb hn hm' => (hm b hm').elim hn fun x => by omega
  refine ⟨hgs.trans h.size, h.k1, e5.trans h.gsz, h.j1, fun x hx => ?_, fun x h1 hx => ?_, by rw [e2, ea]; exact htf, fun x hx b hb => ?_, fun k hk' b hb => ?_, h.os, (fun x hx b hb => by rw [e1]; exact h.ow x hx b hb), h.oo, hchan, h.shut, h.cne, fun x hx => ?_, fun c hl hc => h.chs c (fun e => hl (e6.2 e)) (by rw [← e4]; exact hc), fun e => h.lawj (e6.1 e), fun hl => ?_, fun b hb => ?_, fun b hb => ?_, fun hl b hb => ?_, fun hl b hb => ?_⟩
  · obtain ⟨g, hg, hks⟩ := h.wk x hx
    refine ⟨g, (hgo _ (by have := h.k1; omega)).trans hg, ?_⟩
    rw [e1]
    exact hks.rely (h.os x hx) ⟨hsz, same' x hx, hlive (h.notlaw hx)⟩
  · obtain ⟨g, hg, hq⟩ := h.old x h1 hx
    exact ⟨g, (hgo x h1).trans hg, by rw [hdo x h1 hx]; exact hq⟩
  · obtain ⟨a1, a2, a3, a4, cs, t, f, a5⟩ := h.sw x hx b hb
    rw [e2, e3]
    exact ⟨a1, ml b a4 a2, a3, Nat.lt_of_lt_of_le a4 hsz, cs, t, f, (same' x hx b hb).trans a5⟩
  · obtain ⟨a1, a2, a3, a4⟩ := h.so k hk' b hb
    rw [e2, e3]
    exact ⟨a1, ml b a4 a2, a3, Nat.lt_of_lt_of_le a4 hsz⟩
  · obtain ⟨a1, a2, a3⟩ := h.cmay x hx
    obtain ⟨buf, s, r, hc, _⟩ := h.chan x hx
    rw [e1, e4]
    exact ⟨by rw [e2]; exact a1, a2, a3⟩
  · have := h.grp fun e => hl (e6.2 e)
    rw [e1, e2]
    exact ⟨this.1, Nat.lt_of_lt_of_le this.2 hsz⟩
  · rw [e2]
    rcases hm b hb with h1 | ⟨rfl, _⟩
    · exact h.gm b h1
    · exact fun hg => Nat.lt_irrefl _ (h.glt _ hg)
  · rw [e2] at hb; exact Nat.lt_of_lt_of_le (h.glt b hb) hsz
  · rw [e3]; rw [e1] at hb; exact h.zn (fun e => hl (e6.2 e)) b hb
  · rcases hm b hb with h1 | ⟨rfl, h1⟩
    · exact Nat.lt_of_lt_of_le (h.mlt (fun e => hl (e6.2 e)) b h1) hsz
    · exact h1

theorem Com.at (h : Com P ty κ j gs w t D So qo st) (d : Nat) : Com P ty κ j gs (w.at d) t D So qo st :=
  ⟨h.size, h.k1, h.gsz, h.j1, fun i hi => let ⟨g, hg, hs⟩ := h.wk i hi; ⟨g, hg, hs.rely (h.os i hi) (RK.at w d)⟩, h.old, h.tf, h.sw, h.so, h.os, h.ow, h.oo, h.chan, h.shut, h.cne, h.cmay, h.chs, h.lawj, h.grp, h.gm, h.glt, h.zn, h.mlt⟩

/-- A LEAVER's SLIP. -/
theorem Com.slip (h : Com P ty κ j gs w t D So qo st) {x k : Nat} (h1 : 1 ≤ x) (hx : x < κ) {g' : Goroutine} {fn : FuncId} {pos : String} {es : Array Event} (hm : ∀ e ∈ es, e.mute = true) (hq : QuitsD P k (deafBehind (Deaf t x) es) g')
    (hgs : gs'.size = gs.size) (hgx : gs'[x]? = some g') (hgo : ∀ y, 1 ≤ y → y ≠ x → gs'[y]? = gs[y]?) : Com P ty κ j gs' w (t ++ MemOp.ofEvents x fn pos es) D So (upd qo x k) st :=
  ⟨hgs.trans h.size, h.k1, h.gsz, h.j1, fun i hi => let ⟨g, hg, hs⟩ := h.wk i hi; ⟨g, (hgo _ (by have := h.k1; omega) (by omega)).trans hg, hs⟩, fun y hy1 hy => by
    by_cases e : y = x
    · subst e; exact ⟨g', hgx, by rw [upd_same, Deaf_own]; exact hq⟩
    · obtain ⟨g, hg, hqq⟩ := h.old y hy1 hy
      exact ⟨g, (hgo y hy1 e).trans hg, by rw [upd_ne qo _ e, Deaf_other t (Ne.symm e) _ g_of_ofEvents]; exact hqq⟩, h.tf.mute h.apart h1 hx hm, h.sw, h.so, h.os, h.ow, h.oo, h.chan, h.shut, h.cne, h.cmay, h.chs, h.lawj, h.grp, h.gm, h.glt, h.zn, h.mlt⟩
end

end Go.Proofs.Ytiodikflmijhkaa.Farm
/- The farm: where the starter stands; the invariant; the master law of a worker's step. No program is named here. -/
set_option linter.unusedSectionVars false
set_option linter.unusedVariables false
namespace Go.Proofs.Ytiodikflmijhkaa.Farm
open Go.Conc Go.ConcN
open Go.ConcR (KK wgBlock WgAt stA smA rd wr mk Payload Aside2 DC0 Bk g_of_ofEvents loc_of_ofEvent ofEvent_loc_mark again_blocked)
variable [Payload]

section
variable (P : Program) (ty : TypeId) (Post : MSt → Goroutine → World → Prop)

inductive CS : MSt → Nat → Nat → Bool → Goroutine → World → Prop
  | run {st : MSt} {N m : Nat} {g : Goroutine} {w : World} : Goes P true (ROf ty st) (DM st) (fun g w => g.status = .running ∧ MStop P ty Post (Sc P ty Post N) st g w) m g w → CS st (N + 1) (m + 1) false g w
  | park {st : MSt} {N c : Nat} {z : Value} {g g₂ : Goroutine} {w : World} : st.tag = .opn false → st.d = 0 → st.chs c → (∃ s r, w.heap[c]? = some (.chan 6 #[] false s r false)) → (∀ w₁, ROf ty st w w₁ → RecvAt P ty (Sc P ty Post N) st c z g g₂ w₁) →
      CS st (N + 1) 0 false (parked g₂ #[rcase c z] (.recv true)) w
  | sem {st : MSt} {N : Nat} {g : Goroutine} {w : World} : st.tag = .w3 → st.d = 1 → (∀ w₁, ROf ty st w w₁ → SemAt P ty (Sc P ty Post N) st g w₁) → CS st (N + 1) 0 true { g with status := .blocked } w

def tgOf : MTag → Bool → CTag
  | .law, _ => .ret
  | .opn false, _ => .kd
  | .opn true, _ => .sp 0 3
  | .w2 vs, _ => .w2 vs
  | .w3, false => .w3
  | .w3, true => .blk
  | .fin, _ => .ke
def D7 (D : Nat → KD) (i : Nat) : WD := ⟨min (D i).stage 7, 0, 0⟩

structure GM (st : MSt) (j : Nat) (D : Nat → KD) (b : Bool) (w : World) : Prop where
  mode : ∃ s m, WgAt ty st.wg w s m ∧ ConcN.Mode j (D7 D) (tgOf st.tag b) s m
  bd : ∀ p, st.tag = .opn p → Vc j (D7 D) + (if p then 1 else 0) ≤ st.bd
  bdm : True

def mu (κ j : Nat) (D : Nat → KD) (qo : Nat → Nat) (N f : Nat) : Nat × Nat := (20 * N + sumTo j (fun i => (D i).stage), f + 2 * (sumTo j (fun i => (D i).fuel) + sumTo κ qo))

def Inv (μ : Nat × Nat) (m : Machine) (t : Trace) : Prop :=
  ∃ (gs : Array Goroutine) (w : World) (sl : Option (Nat × Nat)) (κ j : Nat) (D : Nat → KD) (So : Nat → Nat → Prop) (qo : Nat → Nat) (st : MSt) (N f : Nat) (b : Bool) (a : Goroutine),
    m = crowd gs w sl ∧ gs[0]? = some a ∧ CS P ty Post st N f b a w ∧ Com P ty κ j gs w t D So qo st ∧ (st.tag ≠ .law → GM ty st j D b w) ∧ μ = mu κ j D qo N f
end

section
variable {P : Program} {ty : TypeId} {Post : MSt → Goroutine → World → Prop} {κ j : Nat} {gs : Array Goroutine} {w w' : World} {sl : Option (Nat × Nat)} {t : Trace} {D : Nat → KD} {So : Nat → Nat → Prop} {qo : Nat → Nat} {st : MSt} {N f : Nat} {b : Bool} {a : Goroutine}

theorem CS.status (h : CS P ty Post st N f b a w) : (a.status = .running ∧ 0 < f ∧ b = false) ∨ (a.status = .blocked ∧ f = 0) := by
  cases h with
  | run h => exact .inl ⟨Goes.running (fun _ _ x => x.1) w (ROf.refl ty st w) h, by omega, rfl⟩
  | park _ _ _ _ _ => exact .inr ⟨rfl, rfl⟩
  | sem _ _ _ => exact .inr ⟨rfl, rfl⟩

/-- UNDER ANOTHER's STEP THAT CLOSES NO CHANNEL. -/
theorem CS.woken (h : CS P ty Post st N f b a w) (hR : ROf ty st w w') (hch : ∀ c z g₂, st.chs c → a = parked g₂ #[rcase c z] (.recv true) → w'.heap[c]? = w.heap[c]?) (g g' : Goroutine) :
    ∃ f' b', CS P ty Post st N f' b' (Conc.woken P g g' w' a) w' ∧ f' ≤ f + 1 ∧ (b' = b ∨ (b = true ∧ b' = false)) ∧ (mayWake P g = true → g'.status = .running → b' = false) := by
  cases h with
  | run h =>
    rename_i N m
    refine ⟨m + 1, false, ?_, by omega, .inl rfl, fun _ _ => rfl⟩
    rw [woken_run (Goes.running (fun _ _ x => x.1) w (ROf.refl ty st w) h)]
    exact .run (Goes.rely (ROf.trans ty st) h hR)
  | park h1 h2 h3 h4 h5 =>
    obtain ⟨s, r, hc⟩ := h4
    refine ⟨0, false, ?_, by omega, .inl rfl, fun _ _ => rfl⟩
    have hc' := (hch _ _ _ h3 rfl).trans hc
    rw [woken_recv_open g g' hc']
    exact .park h1 h2 h3 ⟨s, r, hc'⟩ fun w₁ r₁ => h5 w₁ (ROf.trans ty st _ _ _ hR r₁)
  | sem h1 h2 h3 =>
    rename_i N g0
    have h3' : ∀ w₁, ROf ty st w' w₁ → SemAt P ty (Sc P ty Post N) st g0 w₁ := fun w₁ r₁ => h3 w₁ (ROf.trans ty st _ _ _ hR r₁)
    have h0 := h3' w' (ROf.refl ty st w')
    unfold Go.Conc.woken
    split
    · refine ⟨0 + 1, false, ?_, by omega, .inr ⟨rfl, rfl⟩, fun _ _ => rfl⟩
      rw [again_blocked h0.run h0.off]
      exact .run (Goes.stop fun w₁ r₁ => ⟨(h3' w₁ r₁).run, .w3 h1 h2 (h3' w₁ r₁)⟩)
    · rename_i hc
      exact ⟨0, true, .sem h1 h2 h3', by omega, .inl rfl, fun k1 k2 => absurd (by simp [k1, k2]) hc⟩

/-- The world alone has turned. -/
theorem CS.rely (h : CS P ty Post st N f b a w) (hR : ROf ty st w w') (hch : ∀ c z g₂, st.chs c → a = parked g₂ #[rcase c z] (.recv true) → w'.heap[c]? = w.heap[c]?) : CS P ty Post st N f b a w' := by
  cases h with
  | run h => exact .run (Goes.rely (ROf.trans ty st) h hR)
  | park h1 h2 h3 h4 h5 =>
    obtain ⟨s, r, hc⟩ := h4
    exact .park h1 h2 h3 ⟨s, r, (hch _ _ _ h3 rfl).trans hc⟩ fun w₁ r₁ => h5 w₁ (ROf.trans ty st _ _ _ hR r₁)
  | sem h1 h2 h3 => exact .sem h1 h2 fun w₁ r₁ => h3 w₁ (ROf.trans ty st _ _ _ hR r₁)

/-- ITS CHANNEL IS CLOSED: it is let try again. -/
theorem CS.closed {c : Nat} {z : Value} {g₂ : Goroutine} (h : CS P ty Post st N f b (parked g₂ #[rcase c z] (.recv true)) w) (hR : ROf ty st w w') {s r : Nat} (hc : w'.heap[c]? = some (.chan 6 #[] true s r false)) {g g' : Goroutine} (hw : mayWake P g = true) (hg : g'.status = .running) :
    ∃ f', CS P ty Post st N f' false (Conc.woken P g g' w' (parked g₂ #[rcase c z] (.recv true))) w' ∧ f' ≤ f + 1 := by
  generalize hA : parked g₂ #[rcase c z] (.recv true) = A at h
  cases h with
  | run h =>
    have := Goes.running (fun _ _ x => x.1) w (ROf.refl ty st w) h
    rw [← hA] at this; cases this
  | park h1 h2 h3 h4 h5 =>
    rename_i N c' z' g0 g2'
    have eo : (some (#[rcase c z], CommShape.recv true) : Option (Array CommCase × CommShape)) = some (#[rcase c' z'], CommShape.recv true) := congrArg Goroutine.offers hA
    have e1 : rcase c z = rcase c' z' := by simpa using eo
    obtain ⟨rfl, rfl⟩ : c = c' ∧ z = z' := by simpa [rcase] using e1
    have h0 := h5 w' hR
    have ew : Conc.woken P g g' w' (parked g2' #[rcase c z] (.recv true)) = { parked g2' #[rcase c z] (.recv true) with status := .running } := by
      unfold Go.Conc.woken
      rw [if_pos (by simp [hw, hg])]
      exact again_recv_closed hc
    rw [ew]
    refine ⟨0 + 1, .run (Goes.stop fun w₁ r₁ => ⟨rfl, .recv c z g2' h1 h2 h3 ?_⟩), by omega⟩
    have h6 := h5 w₁ (ROf.trans ty st _ _ _ hR r₁)
    exact ⟨rfl, rfl, rfl, rfl, fun w₂ r₂ => let ⟨es, hs, he⟩ := h6.step w₂ r₂; ⟨es, (stepG_same (h := g0) h6.fr.symm h6.cs.symm h6.dy.symm w₂).trans hs, he⟩, h6.some, h6.none⟩
  | sem h1 h2 h3 =>
    have := (h3 w (ROf.refl ty st w)).off
    have eo := congrArg Goroutine.offers hA
    simp only [parked] at eo
    rw [this] at eo; cases eo

theorem RdF_upd {i : Nat} {d' : KD} (h : d'.S = (D i).S) : RdF κ j (upd D i d') So = RdF κ j D So := by
  funext k l
  unfold RdF
  by_cases e : k - κ = i
  · rw [e, upd_same, h]
  · rw [upd_ne D _ e]
theorem deaf_upd {i : Nat} {d' : KD} : (fun x => (upd D i d' x).deaf) = upd (fun x => (D x).deaf) i d'.deaf := by
  funext x
  by_cases e : x = i
  · subst e; simp only [upd_same]
  · rw [upd_ne D _ e, upd_ne _ _ e]

theorem aOf_some (h : st.tag ≠ .law) : aOf st = some (stA st.wg) := by
  unfold aOf
  split
  · exact absurd ‹_› h
  · rfl

/-- What a worker's step leaves of the trace. -/
theorem tf_worker (h : Com P ty κ j gs w t D So qo st) {i : Nat} (hi : i < j) {fn : FuncId} {pos : String} {es : Array Event} {d' : KD} (hSe : d'.S = (D i).S) (hsz : w.heap.size ≤ w'.heap.size)
    (hev : ∀ e ∈ es, EvW' st.grp (some (stA st.wg)) (fun l => ∃ a, l = .cell a ∧ (D i).S a.block) w'.heap.size e) (hd : deafBehind (D i).deaf es = d'.deaf)
    (hst : d'.stage ≤ 6 → RelBy (stA st.wg) (t ++ MemOp.ofEvents (κ + i) fn pos es) (κ + i) t.size ∨ ((D i).stage ≤ 6 ∧ ∀ r, RelBy (stA st.wg) t (κ + i) r → RelBy (stA st.wg) (t ++ MemOp.ofEvents (κ + i) fn pos es) (κ + i) r)) :
    TF κ j w'.heap.size st.grp (RdF κ j (upd D i d') So) st.d (fun x => (upd D i d' x).deaf) (aOf st) (fun x => (upd D i d' x).stage ≤ 6) (t ++ MemOp.ofEvents (κ + i) fn pos es) := by
  rw [RdF_upd hSe, deaf_upd]
  refine h.tf.worker h.k1 h.apart hi hsz (fun e he => ⟨fun x hx => ?_, fun y hy => (hev e he).2.1 y (by rw [← hy, aOf_some (h.notlaw hi)]), (hev e he).2.2⟩) hd (fun x _ e hx => by rw [upd_ne D _ e] at hx; exact hx) (fun hx => ?_)
  · rcases (hev e he).1 x hx with h1 | ⟨⟨y, hy, hs⟩, h1⟩
    · exact .inl h1
    · exact .inr ⟨⟨y, hy, .inr ⟨by omega, by omega, by rw [Nat.add_sub_cancel_left]; exact hs⟩⟩, h1⟩
  · rw [upd_same] at hx
    rcases hst hx with h1 | ⟨h1, h2⟩
    · exact .inl ⟨_, aOf_some (h.notlaw hi), h1⟩
    · refine .inr ⟨h1, fun x r hx' => ?_⟩
      rw [aOf_some (h.notlaw hi)] at hx'
      cases hx'
      exact h2 r

theorem Vc_D7 {i : Nat} (hi : i < j) (d' : KD) : Vc j (D7 (upd D i d')) + cnt (D7 D i) = Vc j (D7 D) + cnt (⟨min d'.stage 7, 0, 0⟩ : WD) := by
  have e : D7 (upd D i d') = upd (D7 D) i ⟨min d'.stage 7, 0, 0⟩ := by
    funext x
    by_cases e : x = i
    · subst e; simp only [D7, upd_same]
    · simp only [D7, upd_ne D _ e, upd_ne (D7 D) _ e]
  rw [e]
  exact Vc_upd (D7 D) _ hi
theorem D7_upd {i : Nat} (d' : KD) : D7 (upd D i d') = upd (D7 D) i ⟨min d'.stage 7, 0, 0⟩ := by
  funext x
  by_cases e : x = i
  · subst e; simp only [D7, upd_same]
  · simp only [D7, upd_ne D _ e, upd_ne (D7 D) _ e]

theorem mu_worker {i : Nat} (hi : i < j) {d' : KD} {N' f' : Nat} (hN : N' ≤ N) (h : d'.stage < (D i).stage ∨ (d'.stage = (D i).stage ∧ d'.fuel + 1 = (D i).fuel ∧ f' ≤ f + 1)) : Lt2 (mu κ j (upd D i d') qo N' f') (mu κ j D qo N f) := by
  have e1 := sumTo_upd D d' KD.stage hi
  have e2 := sumTo_upd D d' KD.fuel hi
  unfold mu
  rcases h with h | ⟨h1, h2, h3⟩
  · exact Prod.Lex.left _ _ (by omega)
  · rcases Nat.lt_or_ge N' N with hlt | hge
    · exact Prod.Lex.left _ _ (by omega)
    · have e : 20 * N' + sumTo j (fun x => (upd D i d' x).stage) = 20 * N + sumTo j (fun x => (D x).stage) := by omega
      rw [e]
      exact Prod.Lex.right _ (by omega)

/-- THE MASTER LAW OF A WORKER's OWN STEP. -/
theorem workerGo (ha : gs[0]? = some a) (hcom : Com P ty κ j gs w t D So qo st) {i : Nat} (hi : i < j) {g g' : Goroutine} {es : Array Event} {d' : KD}
    (hg : gs[κ + i]? = some g) (hgo : stepG P false g w = .go g' w' es) (hk : KS P ty st.wg d' g' w') (hc : d'.c = (D i).c)
    (hsz : w.heap.size ≤ w'.heap.size) (hsame : ∀ b, b < w.heap.size → b ≠ st.wg → ¬ (D i).O b → (∀ x, x < j → b ≠ (D x).c) → w'.heap[b]? = w.heap[b]?)
    (hch : ∀ x, x < j → x ≠ i → w'.heap[(D x).c]? = w.heap[(D x).c]?) (hlive : WgLive ty st.wg w → WgLive ty st.wg w')
    (hS : ∀ b, d'.S b → (D i).S b ∨ (b = w.heap.size ∧ ∃ cs t f, w'.heap[b]? = some (.cells cs t f))) (hSc : ∀ b, (D i).S b → ∃ cs t f, w'.heap[b]? = some (.cells cs t f))
    (hO : ∀ b, d'.O b → d'.S b ∧ ((D i).O b ∨ b = w.heap.size)) (hchan : ChanAt w' (st.q (D i).c) d') (hss : d'.stage ≤ 7 → d'.ss = [])
    (htf : TF κ j w'.heap.size st.grp (RdF κ j (upd D i d') So) st.d (fun x => (upd D i d' x).deaf) (aOf st) (fun x => (upd D i d' x).stage ≤ 6) (t ++ MemOp.ofEvents (κ + i) g.frame.fn g.frame.place es))
    (hcs : ∃ f' b', CS P ty Post st N f' b' (Conc.woken P g g' w' a) w' ∧ f' ≤ f + 1 ∧ GM ty st j (upd D i d') b' w')
    (hlt : d'.stage < (D i).stage ∨ (d'.stage = (D i).stage ∧ d'.fuel + 1 = (D i).fuel)) :
    ∃ m₁ ops μ', runT P (crowd gs w sl) (κ + i) = (.next m₁, ops) ∧ Lt2 μ' (mu κ j D qo N f) ∧ Inv P ty Post μ' m₁ (t ++ ops) := by
  obtain ⟨f', b', hcs', hf', hgm⟩ := hcs
  have hk1 := hcom.k1
  have hrun := runT_crowd_go (P := P) (sl := sl) (i := κ + i) hg (by rw [show (κ + i == 0) = false by simp; omega]; exact hgo)
  refine ⟨_, _, mu κ j (upd D i d') qo N f', hrun, mu_worker hi (Nat.le_refl _) (hlt.imp id fun x => ⟨x.1, x.2, hf'⟩), _, w', sl, κ, j, upd D i d', So, qo, { st with q := st.q }, N, f', b', Conc.woken P g g' w' a, rfl, ?_, hcs', ?_, fun _ => hgm, rfl⟩
  · rw [get_map_set _ _ _ _ (by omega), ha]; rfl
  · refine hcom.worker (q' := st.q) hi (by simp) (get_map_set_same _ _ _ (by rw [hcom.size]; omega)) hk (fun x h1 hx => ?_) hc hsz hsame hch hlive hS hSc hO hchan (fun _ _ _ => rfl) hss htf (fun x h1 hx => ?_)
    · rw [get_map_set _ _ _ _ (by omega)]
      cases hgx : gs[x]? with
      | none => rfl
      | some y =>
        rcases Nat.lt_or_ge x κ with hlt' | hge
        · obtain ⟨z, hz, hq⟩ := hcom.old x h1 hlt'
          rw [hgx] at hz; cases hz
          simp [woken_quitsD hq]
        · have hxj : x - κ < j := by have := (Array.getElem?_eq_some_iff.1 hgx).1; rw [hcom.size] at this; omega
          obtain ⟨z, hz, hks⟩ := hcom.wk (x - κ) hxj
          rw [show κ + (x - κ) = x by omega, hgx] at hz; cases hz
          simp [hks.woken]
    · exact Deaf_other t (by omega) _ g_of_ofEvents
end

end Go.Proofs.Ytiodikflmijhkaa.Farm
/- The farm: a step of a worker's keeps the invariant and lowers the measure. No program is named here. -/
set_option linter.unusedSectionVars false
set_option linter.unusedVariables false
namespace Go.Proofs.Ytiodikflmijhkaa.Farm
open Go.Conc Go.ConcN
open Go.ConcR (KK wgBlock WgAt stA smA rd wr mk Payload Aside2 DC0 Bk g_of_ofEvents loc_of_ofEvent ofEvent_loc_mark again_blocked bk_of_mute ofEvent_cell)
variable [Payload]

theorem heap_setChan_ne' (w : World) (c cap : Nat) (buf : Array Value) (cl : Bool) (s r : Nat) (tm : Bool) {b : Nat} (h : b ≠ c) : (w.setChan c cap buf cl s r tm).heap[b]? = w.heap[b]? := by
  simp [World.setChan, Array.getElem?_setIfInBounds_ne (Ne.symm h)]
theorem heap_setChan_at (w : World) (c cap : Nat) (buf : Array Value) (cl : Bool) (s r : Nat) (tm : Bool) (h : c < w.heap.size) : (w.setChan c cap buf cl s r tm).heap[c]? = some (.chan cap buf cl s r tm) := by
  simp [World.setChan, h]
theorem size_setChan (w : World) (c cap : Nat) (buf : Array Value) (cl : Bool) (s r : Nat) (tm : Bool) : (w.setChan c cap buf cl s r tm).heap.size = w.heap.size := by simp [World.setChan]
theorem live_of {ty : TypeId} {wg : Nat} {w w' : World} (h : w'.heap[wg]? = w.heap[wg]?) : WgLive ty wg w → WgLive ty wg w' := fun ⟨s, m, x⟩ => ⟨s, m, x.of_block h⟩
theorem heap_alloc_ne (w : World) (o : Obj) {b : Nat} (h : b < w.heap.size) : (w.alloc o).heap[b]? = w.heap[b]? :=
  Go.RowKit.Below.heap_alloc _ _ _ h
theorem evW_of_K {grp S : Nat → Prop} {wg : Option Addr} {B B' : Nat} (hB : B ≤ B') {e : Event} (h : EvK S B e) : EvW' grp wg (fun l => ∃ a, l = .cell a ∧ S a.block) B' e :=
  ⟨fun x hx => let ⟨a, h1, h2, h3⟩ := h.1 x hx; .inr ⟨⟨a, h1, h2⟩, h3⟩, fun y _ => h.2.2.2.1 y, tlow_of_low (MemAct.low_mono hB h.2.2.2.2)⟩
theorem deaf_of_K {S : Nat → Prop} {B : Nat} {es : Array Event} (h : ∀ e ∈ es, EvK S B e) (d : Nat) : deafBehind d es = d := deafBehind_idle (fun e he => ⟨(h e he).2.1, (h e he).2.2.1⟩) d

section
variable {P : Program} {ty : TypeId} {Post : MSt → Goroutine → World → Prop} {κ j : Nat} {gs : Array Goroutine} {w w' : World} {sl : Option (Nat × Nat)} {t : Trace} {D : Nat → KD} {So : Nat → Nat → Prop} {qo : Nat → Nat} {st : MSt} {N f : Nat} {b : Bool} {a : Goroutine}

theorem tg_retag {b b' : Bool} (tag : MTag) (h : b' = b ∨ (b = true ∧ b' = false)) : tgOf tag b' = tgOf tag b ∨ (tgOf tag b = .blk ∧ tgOf tag b' = .w3) := by
  rcases h with rfl | ⟨rfl, rfl⟩
  · exact .inl rfl
  · cases tag with
    | opn p => cases p <;> exact .inl rfl
    | w3 => exact .inr ⟨rfl, rfl⟩
    | _ => exact .inl rfl

/-- A step that leaves whom it counts. -/
theorem GM.keep (h : GM ty st j D b w) {i : Nat} (hi : i < j) {d' : KD} (h1 : min d'.stage 7 = min (D i).stage 7) (hw : w'.heap[st.wg]? = w.heap[st.wg]?) {b' : Bool} (hb : b' = b ∨ (b = true ∧ b' = false)) : GM ty st j (upd D i d') b' w' := by
  obtain ⟨⟨s, m, hwg, hm⟩, h2, h3⟩ := h
  have e : ∀ x, x < j → (D7 (upd D i d') x).stage = (D7 D x).stage := fun x _ => by
    by_cases e : x = i
    · subst e; simp only [D7, upd_same, h1]
    · simp only [D7, upd_ne D _ e]
  have hv : Vc j (D7 (upd D i d')) = Vc j (D7 D) := sumTo_congr fun x hx => by simp only [cnt, e x hx]
  exact ⟨⟨s, m, hwg.of_block hw, (hm.congr e).retag (tg_retag st.tag hb)⟩, fun p hp => by rw [hv]; exact h2 p hp, h3⟩

theorem rof_of (h : Com P ty κ j gs w t D So qo st) (hl : st.tag ≠ .law) (h1 : w'.tape = w.tape) (h2 : w'.os = w.os) (h3 : w'.output = w.output) (hsz : w.heap.size ≤ w'.heap.size) {X : Nat → Prop} (hX : ∀ x, X x → ¬ st.mr x ∧ st.wg ≤ x)
    (hs : ∀ x, x < w.heap.size → ¬ X x → w'.heap[x]? = w.heap[x]?) (hlive : WgLive ty st.wg w → WgLive ty st.wg w') : ROf ty st w w' :=
  ⟨fun e => absurd e hl, fun _ => ⟨h1, h2, h3, hsz, fun x hx => hs x (hx.elim (h.mlt hl x) fun y => h.glt x y.1) fun hc => (hX x hc).1 hx, fun x hx => hs x (Nat.lt_trans hx (h.grp hl).2) fun hc => by have := (hX x hc).2; omega, hlive⟩⟩

theorem Com.clt (h : Com P ty κ j gs w t D So qo st) {i : Nat} (hi : i < j) : (D i).c < w.heap.size := by
  obtain ⟨buf, s, r, hc, _⟩ := h.chan i hi
  exact (Array.getElem?_eq_some_iff.1 hc).1

theorem offers_worker (h : Com P ty κ j gs w t D So qo st) {x : Nat} {g : Goroutine} (hx : 1 ≤ x) (hg : gs[x]? = some g) (r : Nat) (sd : Bool) : offersAt g r sd = [] := by
  apply offersAt_of_not_blocked
  intro hb
  have hlt := (Array.getElem?_eq_some_iff.1 hg).1
  rcases Nat.lt_or_ge x κ with h1 | h1
  · obtain ⟨y, hy, hq⟩ := h.old x hx h1
    rw [hg] at hy; cases hy
    rcases hq.status with e | e <;> rw [e] at hb <;> cases hb
  · rw [h.size] at hlt
    obtain ⟨y, hy, hk⟩ := h.wk (x - κ) (by omega)
    rw [show κ + (x - κ) = x by omega, hg] at hy; cases hy
    rcases hk.status with e | e <;> rw [e] at hb <;> cases hb

set_option maxHeartbeats 1600000 in
/-- AN IDLE STEP OF A WORKER's IN ITS SCRIPT, and a new block. -/
theorem scrGo (ha : gs[0]? = some a) (hcs : CS P ty Post st N f b a w) (hcom : Com P ty κ j gs w t D So qo st) (hgm : GM ty st j D b w) {i : Nat} (hi : i < j) {g g' : Goroutine} {es : Array Event} {d' : KD}
    (hg : gs[κ + i]? = some g) (hgo : stepG P false g w = .go g' w' es) (hk : KS P ty st.wg d' g' w') (hc : d'.c = (D i).c) (hss : d'.ss = (D i).ss) (h8 : 8 ≤ (D i).stage) (h8' : 8 ≤ d'.stage)
    (hw : (∃ d, w' = w.at d) ∨ ∃ cs t, w' = w.alloc (.cells cs t))
    (hS : d'.S = (D i).S ∨ (d'.S = fun x => (D i).S x ∨ x = w.heap.size) ∧ ∃ cs t, w' = w.alloc (.cells cs t)) (hO : ∀ x, d'.O x → d'.S x ∧ ((D i).O x ∨ x = w.heap.size))
    (hev : ∀ e ∈ es, EvK (D i).S w.heap.size e) (hd : d'.deaf = (D i).deaf) (hlt : d'.stage < (D i).stage ∨ (d'.stage = (D i).stage ∧ d'.fuel + 1 = (D i).fuel)) :
    ∃ m₁ ops μ', runT P (crowd gs w sl) (κ + i) = (.next m₁, ops) ∧ Lt2 μ' (mu κ j D qo N f) ∧ Inv P ty Post μ' m₁ (t ++ ops) := by
  have hl := hcom.notlaw hi
  have hsz : w.heap.size ≤ w'.heap.size := by rcases hw with ⟨_, rfl⟩ | ⟨cs, t, rfl⟩ <;> simp [World.at]
  have hsame : ∀ x, x < w.heap.size → w'.heap[x]? = w.heap[x]? := fun x hx => by
    rcases hw with ⟨_, rfl⟩ | ⟨cs, t, rfl⟩
    · rfl
    · exact heap_alloc_ne _ _ hx
  have hwg := hsame st.wg (hcom.grp hl).2
  have hR : ROf ty st w w' := rof_of hcom hl (by rcases hw with ⟨_, rfl⟩ | ⟨cs, t, rfl⟩ <;> rfl) (by rcases hw with ⟨_, rfl⟩ | ⟨cs, t, rfl⟩ <;> rfl) (by rcases hw with ⟨_, rfl⟩ | ⟨cs, t, rfl⟩ <;> rfl) hsz (X := fun _ => False) (fun _ x => x.elim) (fun x hx _ => hsame x hx) (live_of hwg)
  have hchs : ∀ c, st.chs c → w'.heap[c]? = w.heap[c]? := fun c hc => by
    obtain ⟨x, hx, rfl⟩ := hcom.chs c hl hc
    exact hsame _ (hcom.clt hx)
  obtain ⟨f', b', hcs', hf', hb', _⟩ := hcs.woken hR (fun c _ _ hc _ => hchs c hc) g g'
  refine workerGo ha hcom hi hg hgo hk hc hsz (fun x hx _ _ _ => hsame x hx) (fun x hx _ => hsame _ (hcom.clt hx)) (live_of hwg) (fun x hx => ?_) (fun x hx => ?_) hO ?_ (fun h7 => by omega) ?_ ⟨f', b', hcs', hf', hgm.keep hi (by omega) hwg hb'⟩ hlt
  · rcases hS with e | ⟨e, cs, t, rfl⟩
    · rw [e] at hx; exact .inl hx
    · rw [e] at hx
      rcases hx with h1 | rfl
      · exact .inl h1
      · exact .inr ⟨rfl, cs, t, (0, 0), heap_alloc_new w _⟩
  · obtain ⟨_, _, _, h4, cs, t, fr, h5⟩ := hcom.sw i hi x hx
    exact ⟨cs, t, fr, (hsame x h4).trans h5⟩
  · obtain ⟨buf, s, r, h1, h2, h3⟩ := hcom.chan i hi
    refine ⟨buf, s, r, ?_, by rw [hss]; exact h2, h3⟩
    rw [hc, hsame _ (hcom.clt hi), h1]
    have e1 : decide ((D i).stage ≤ 7) = decide (d'.stage ≤ 7) := by rw [decide_eq_false (by omega), decide_eq_false (by omega)]
    rw [e1]
  · rcases hS with e | ⟨e, cs, ty', rfl⟩
    · exact tf_worker hcom hi e hsz (fun e he => evW_of_K hsz (hev e he)) (by rw [deaf_of_K hev, hd]) (fun h6 => by omega)
    · have h1 := tf_worker (w' := w.alloc (.cells cs ty')) (d' := { d' with S := (D i).S }) (fn := g.frame.fn) (pos := g.frame.place) (es := es) hcom hi rfl hsz (fun e he => evW_of_K hsz (hev e he)) (by rw [deaf_of_K hev]; exact hd.symm) (fun h6 => by simp only at h6; omega)
      have h2 := tf_worker (w' := w) (d' := { d' with S := (D i).S }) (fn := g.frame.fn) (pos := g.frame.place) (es := es) hcom hi rfl (Nat.le_refl _) (fun e he => evW_of_K (Nat.le_refl _) (hev e he)) (by rw [deaf_of_K hev]; exact hd.symm) (fun h6 => by simp only at h6; omega)
      have h3 := h2.alloc (grp' := st.grp) (Rd' := RdF κ j (upd D i d') So) (B' := (w.alloc (.cells cs ty')).heap.size) (fun _ => id) (fun _ => .inl) (fun k l hl => ?_) (fun k l hl => ?_) hsz
      · have ed : (fun x => (upd D i { d' with S := (D i).S } x).deaf) = fun x => (upd D i d' x).deaf := by rw [deaf_upd, deaf_upd]
        have es' : (fun x => (upd D i { d' with S := (D i).S } x).stage ≤ 6) = fun x => (upd D i d' x).stage ≤ 6 := by
          funext x
          by_cases ex : x = i
          · subst ex; simp only [upd_same]
          · simp only [upd_ne D _ ex]
        rw [ed, es'] at h3
        exact h3
      · obtain ⟨y, rfl, hy | ⟨y1, y2, hy⟩⟩ := hl
        · exact ⟨y, rfl, .inl hy⟩
        · refine ⟨y, rfl, .inr ⟨y1, y2, ?_⟩⟩
          by_cases ex : k - κ = i
          · rw [ex, upd_same] at hy ⊢; rw [e]; exact .inl hy
          · rw [upd_ne D _ ex] at hy ⊢; exact hy
      · obtain ⟨y, rfl, hy | ⟨y1, y2, hy⟩⟩ := hl
        · exact .inl ⟨y, rfl, .inl hy⟩
        · by_cases ex : k - κ = i
          · rw [ex, upd_same, e] at hy
            rcases hy with hy | hy
            · exact .inl ⟨y, rfl, .inr ⟨y1, y2, by rw [ex, upd_same]; exact hy⟩⟩
            · exact .inr ⟨y, rfl, by omega⟩
          · rw [upd_ne D _ ex] at hy
            exact .inl ⟨y, rfl, .inr ⟨y1, y2, by rw [upd_ne D _ ex]; exact hy⟩⟩
end

end Go.Proofs.Ytiodikflmijhkaa.Farm
/- The farm: a worker's send (into the buffer, or to the starter that waits), its close. No program is named here. -/
set_option linter.unusedSectionVars false
set_option linter.unusedVariables false
namespace Go.Proofs.Ytiodikflmijhkaa.Farm
open Go.Conc Go.ConcN
open Go.ConcR (KK wgBlock WgAt stA smA rd wr mk Payload Aside2 DC0 Bk g_of_ofEvents loc_of_ofEvent ofEvent_loc_mark again_blocked bk_of_mute ofEvent_cell)
variable [Payload]

section
variable {P : Program} {ty : TypeId} {Post : MSt → Goroutine → World → Prop} {κ j : Nat} {gs : Array Goroutine} {w w' : World} {sl : Option (Nat × Nat)} {t : Trace} {D : Nat → KD} {So : Nat → Nat → Prop} {qo : Nat → Nat} {st : MSt} {N f : Nat} {b : Bool} {a : Goroutine}

theorem CS.offers (h : CS P ty Post st N f b a w) (c : Nat) : (∃ z g₂, st.chs c ∧ st.tag = .opn false ∧ a = parked g₂ #[rcase c z] (.recv true)) ∨ offersAt a c false = [] := by
  cases h with
  | run h => exact .inr (offersAt_of_not_blocked (by rw [Goes.running (fun _ _ x => x.1) w (ROf.refl ty st w) h]; simp) _ _)
  | park h1 h2 h3 h4 h5 =>
    rename_i N c' z g g₂
    by_cases e : c' = c
    · subst e; exact .inl ⟨z, g₂, h3, h1, rfl⟩
    · exact .inr (by rw [offersAt_parked_recv, if_neg e])
  | sem h1 h2 h3 =>
    have := (h3 w (ROf.refl ty st w)).off
    exact .inr (by simp only [offersAt, this])

theorem CS.offers_send (h : CS P ty Post st N f b a w) (c : Nat) : offersAt a c true = [] := by
  cases h with
  | run h => exact offersAt_of_not_blocked (by rw [Goes.running (fun _ _ x => x.1) w (ROf.refl ty st w) h]; simp) _ _
  | park _ _ _ _ _ => exact offersAt_parked_recv' _ _ _ _ _
  | sem h1 h2 h3 =>
    have := (h3 w (ROf.refl ty st w)).off
    simp only [offersAt, this]

/-- The world behind a turn of one of the channels. -/
theorem rof_chan (h : Com P ty κ j gs w t D So qo st) {i : Nat} (hi : i < j) (cap : Nat) (buf : Array Value) (cl : Bool) (s r : Nat) (tm : Bool) : ROf ty st w (w.setChan (D i).c cap buf cl s r tm) :=
  rof_of h (h.notlaw hi) rfl rfl rfl (by rw [size_setChan]; exact Nat.le_refl _) (X := fun x => x = (D i).c) (fun x e => by subst e; exact ⟨fun y => y.elim (h.cm hi) fun z => z.2.1 (h.cmay i hi).2.2, Nat.le_of_lt (h.cmay i hi).2.1⟩) (fun x _ e => heap_setChan_ne' _ _ _ _ _ _ _ _ e)
    (live_of (heap_setChan_ne' _ _ _ _ _ _ _ _ (Nat.ne_of_lt (h.cmay i hi).2.1)))

theorem sc_pos {N : Nat} {st : MSt} {g : Goroutine} {w : World} (h : Sc P ty Post N st g w) : ∃ m, CS P ty Post st N (m + 1) false g w := by
  cases N with
  | zero => exact h.elim
  | succ N => obtain ⟨m, h⟩ := h; exact ⟨m, .run h⟩

theorem Sc.le {N : Nat} {st : MSt} {g : Goroutine} {w : World} (h : CS P ty Post st N f b g w) : 0 < N := by cases h <;> omega

theorem recvAt_some {N c : Nat} {z : Value} {g g₂ : Goroutine} {v : Value} {r : List Value} (h : RecvAt P ty (Sc P ty Post N) st c z g g₂ w) (hq : st.q c = v :: r) : ∃ m, CS P ty Post { st with q := upd st.q c r } N (m + 1) false (Conc.served g₂ (recvd true v true)) w := sc_pos (h.some v r hq)

def cops (i : Nat) (fn : FuncId) (pos : String) (c s : Nat) : Trace := #[{ g := i, fn, pos, act := .send c s }, { g := i, fn, pos, act := .sendDone c s }]

set_option maxHeartbeats 3200000 in
theorem sendStep (ha : gs[0]? = some a) (hcs : CS P ty Post st N f b a w) (hcom : Com P ty κ j gs w t D So qo st) (hgm : GM ty st j D b w) {i : Nat} (hi : i < j) {g g₂ : Goroutine} {es : Array Event} {Nw m : Nat} {v z : Value} {r : List Value} {S O : Nat → Prop} {c mo : Nat}
    (hD : D i = ⟨8 + (Nw + 1), mo, 0, S, O, c, v :: r⟩) (hN : Nw + 1 ≤ 10) (hg : gs[κ + i]? = some g) (hgo : stepG P false g w = .comm g₂ #[scase c v z] true .send w es) (hev : ∀ e ∈ es, EvK S w.heap.size e)
    (hK : Goes P false (RK ty st.wg S) (DK S) (fun g w => g.status = .running ∧ KStop P ty st.wg c (Wk P ty st.wg c Nw) O S r g w) m (Conc.served g₂ undef) w) :
    ∃ m₁ ops μ', runT P (crowd gs w sl) (κ + i) = (.next m₁, ops) ∧ Lt2 μ' (mu κ j D qo N f) ∧ Inv P ty Post μ' m₁ (t ++ ops) := by
  have hl := hcom.notlaw hi
  have hk1 := hcom.k1
  obtain ⟨d', hd'⟩ : ∃ d' : KD, d' = ⟨8 + Nw, m, 0, S, O, c, r⟩ := ⟨_, rfl⟩
  have ec : (D i).c = c := by rw [hD]
  have eS : (D i).S = S := by rw [hD]
  have eO : (D i).O = O := by rw [hD]
  obtain ⟨buf, s, rr, h1, h2, h3⟩ := hcom.chan i hi
  rw [ec] at h1 h2 h3
  have est : decide ((D i).stage ≤ 7) = false := by rw [hD]; exact decide_eq_false (by simp; omega)
  rw [est] at h1
  have ess : (D i).ss = v :: r := by rw [hD]
  rw [ess] at h2
  have hclt : c < w.heap.size := by have := hcom.clt hi; rwa [ec] at this
  have hi0 : (κ + i == 0) = false := by simp; omega
  have hgo' : stepG P (κ + i == 0) g w = .comm g₂ #[scase c v z] true .send w es := by rw [hi0]; exact hgo
  -- what holds behind it, whatever has become of the channel
  have after : ∀ (buf' : Array Value) (s' r' : Nat) (q' : Nat → List Value) (gs' : Array Goroutine) (N' f' : Nat) (a' : Goroutine) (u : Trace), q' c = buf'.toList ++ r → (q' c).length ≤ 6 → (∀ x, x < j → x ≠ i → q' (D x).c = st.q (D x).c) →
      gs'.size = gs.size → gs'[κ + i]? = some (Conc.served g₂ undef) → (∀ x, 1 ≤ x → x ≠ κ + i → gs'[x]? = gs[x]?) → gs'[0]? = some a' → CS P ty Post { st with q := q' } N' f' b a' (w.setChan c 6 buf' false s' r' false) → N' ≤ N →
      (∀ op ∈ u, op.g ≤ κ + j - 1) → (∀ op ∈ u, op.act.touch? = none) → (∀ op ∈ u, op.act ≠ .mark .disable ∧ op.act ≠ .mark .enable ∧ ∀ x, op.act ≠ .mark (.release x)) →
      runT P (crowd gs w sl) (κ + i) = (.next (crowd gs' (w.setChan c 6 buf' false s' r' false) sl), MemOp.ofEvents (κ + i) g.frame.fn g.frame.place es ++ u) →
      ∃ m₁ ops μ', runT P (crowd gs w sl) (κ + i) = (.next m₁, ops) ∧ Lt2 μ' (mu κ j D qo N f) ∧ Inv P ty Post μ' m₁ (t ++ ops) := by
    intro buf' s' r' q' gs' N' f' a' u hq1 hq2 hq3 hgs hgi hgo2 hg0 hcs' hN' u1 u2 u3 hrun
    obtain ⟨w', hw'⟩ : ∃ w', w' = w.setChan c 6 buf' false s' r' false := ⟨_, rfl⟩
    have hne : ∀ x, x ≠ c → w'.heap[x]? = w.heap[x]? := fun x hx => by rw [hw']; exact heap_setChan_ne' _ _ _ _ _ _ _ _ hx
    have hsz : w'.heap.size = w.heap.size := by rw [hw']; exact size_setChan _ _ _ _ _ _ _ _
    have hcS : ∀ x, S x → x ≠ c := fun x hx e => hcom.ce hi hi (by rw [eS, ec]; exact e ▸ hx)
    have hwgc : st.wg ≠ c := by have := (hcom.cmay i hi).2.1; rw [ec] at this; omega
    rw [← hw'] at hcs' hrun
    refine ⟨_, _, mu κ j (upd D i d') qo N' f', hrun, mu_worker hi hN' (.inl (by rw [hd', hD]; simp)), gs', w', sl, κ, j, upd D i d', So, qo, { st with q := q' }, N', f', b, a', rfl, hg0, hcs', ?_, fun _ => ?_, rfl⟩
    · refine hcom.worker hi hgs hgi ?_ hgo2 (by rw [hd', hD]) (by omega) (fun x hx _ _ hxc => hne x (by rw [← ec]; exact hxc i hi)) (fun x hx e => hne _ fun e' => e (hcom.cne x i hx hi (e'.trans ec.symm))) (live_of (hne _ hwgc)) (fun x hx => .inl (by rw [eS]; rw [hd'] at hx; exact hx)) (fun x hx => ?_)
        (fun x hx => by rw [hd'] at hx ⊢; exact ⟨by rw [← eS]; exact hcom.os i hi x (by rw [eO]; exact hx), .inl (by rw [eO]; exact hx)⟩) ?_ hq3 (fun h7 => by rw [hd'] at h7; simp at h7; omega) ?_ (fun x h1 hx => ?_)
      · rw [hd']
        exact .scr (by omega) (Goes.rely (R := RK ty st.wg S) (fun _ _ _ a b => RK.trans a b) hK ⟨by omega, fun x hx => hne x (hcS x hx), live_of (hne _ hwgc)⟩)
      · obtain ⟨_, _, _, _, cs, t', fr, h5⟩ := hcom.sw i hi x hx
        exact ⟨cs, t', fr, (hne x (hcS x (by rw [← eS]; exact hx))).trans h5⟩
      · rw [ec]
        refine ⟨buf', s', r', ?_, by rw [hd']; exact hq1, hq2⟩
        rw [hd', hw']
        have e0 : decide (8 + Nw ≤ 7) = false := decide_eq_false (by omega)
        simp only [e0]
        exact heap_setChan_at _ _ _ _ _ _ _ _ hclt
      · rw [← Array.append_assoc]
        exact (tf_worker (w' := w') hcom hi (by rw [hd', eS]) (by omega) (fun e he => evW_of_K (B := w.heap.size) (by omega) (by rw [eS]; exact hev e he)) (by rw [deaf_of_K hev, hd', hD]) (fun h6 => by rw [hd'] at h6; simp at h6; omega)).comm hk1 (by rw [RdF_upd (by rw [hd', eS])]; exact hcom.apart) (Nat.le_refl _) u1 u2 u3
      · rw [← Array.append_assoc, Deaf_still _ _ u fun op hop => ⟨(u3 op hop).1, (u3 op hop).2.1⟩]
        exact Deaf_other t (by omega) _ g_of_ofEvents
    · have := hgm.keep (w' := w') hi (d' := d') (by rw [hd', hD]; simp; omega) (hne _ hwgc) (.inl rfl)
      exact ⟨this.mode, this.bd, this.bdm⟩
  have hst : ∀ (x : Nat) (y : Goroutine), x ≠ 0 → (gs.setIfInBounds (κ + i) ph)[x]? = some y → offersAt y c false = [] := fun x y hx0 hy => by
    rcases getElem?_stand gs (κ + i) x y hy with ⟨_, rfl⟩ | ⟨_, hy'⟩
    · exact offersAt_ph _ _
    · exact offers_worker hcom (by omega) hy' _ _
  rcases hcs.offers c with ⟨zm, gm, hchs, htag, rfl⟩ | hno
  · -- THE STARTER WAITS THERE
    generalize hA : parked gm #[rcase c zm] (.recv true) = A at hcs
    cases hcs with
    | run h =>
      have := Goes.running (fun _ _ x => x.1) w (ROf.refl ty st w) h
      rw [← hA] at this; cases this
    | sem p1 p2 p3 =>
      have := (p3 w (ROf.refl ty st w)).off
      have eo := congrArg Goroutine.offers hA
      simp only [parked] at eo
      rw [this] at eo; cases eo
    | park p1 p2 p3 p4 p5 =>
      rename_i N c' z' g0 g2'
      have eo : (some (#[rcase c zm], CommShape.recv true) : Option (Array CommCase × CommShape)) = some (#[rcase c' z'], CommShape.recv true) := congrArg Goroutine.offers hA
      have e1 : rcase c zm = rcase c' z' := by simpa using eo
      obtain ⟨rfl, rfl⟩ : c = c' ∧ zm = z' := by simpa [rcase] using e1
      obtain ⟨s0, r0, p4⟩ := p4
      rw [p4] at h1
      obtain ⟨rfl, rfl, rfl⟩ : buf = #[] ∧ s0 = s ∧ r0 = rr := by simp at h1; exact ⟨h1.1, h1.2.1, h1.2.2⟩
      have hqc : st.q c = v :: r := by simpa using h2
      have hpar : partners (gs.setIfInBounds (κ + i) ph) c false = [(0, 0)] := by
        have h0 : (gs.setIfInBounds (κ + i) ph)[0]? = some (parked gm #[rcase c zm] (.recv true)) := by rw [Array.getElem?_setIfInBounds_ne (by omega)]; exact ha
        rw [partners_one h0 fun x y hx hy => hst x y hx hy, offersAt_parked_recv, if_pos rfl]
        rfl
      have hrun := crowd_send_meets (P := P) (sl := sl) (i := κ + i) (j := 0) (gj := gm) (zj := zm) (shj := .recv true) hg hgo' p4 (by omega) ha hpar
      rw [finishComm_send, finishComm_recv] at hrun
      obtain ⟨m2, hcs'⟩ := recvAt_some (p5 (w.setChan c 6 #[] false (s0 + 1) (r0 + 1) false) (by have := rof_chan hcom hi 6 #[] false (s0 + 1) (r0 + 1) false; rw [ec] at this; exact this)) hqc
      have eg : Conc.served gm (recvd true v true) = Conc.served g2' (recvd true v true) := by
        have f1 : gm.frame = g2'.frame := by have := congrArg Goroutine.frame hA; exact this
        have f2 : gm.callers = g2'.callers := by have := congrArg Goroutine.callers hA; exact this
        have f3 : gm.dying = g2'.dying := by have := congrArg Goroutine.dying hA; exact this
        obtain ⟨x1, x2, x3, x4, x5⟩ := gm
        obtain ⟨y1, y2, y3, y4, y5⟩ := g2'
        simp only at f1 f2 f3
        subst f1 f2 f3
        rfl
      rw [eg] at hrun
      refine after #[] (s0 + 1) (r0 + 1) (upd st.q c r) _ N (m2 + 1) _ _ (by rw [upd_same]; rfl) (by rw [upd_same]; rw [hqc] at h3; simp at h3; omega) (fun x hx e => upd_ne _ _ fun e' => e (hcom.cne x i hx hi (e'.trans ec.symm)))
        (by simp) (by rw [Array.getElem?_setIfInBounds_self_of_lt (by simp [hcom.size]; omega)]) (fun x hx e => by rw [Array.getElem?_setIfInBounds_ne (Ne.symm e), Array.getElem?_setIfInBounds_ne (by omega)])
        (by rw [Array.getElem?_setIfInBounds_ne (by omega), Array.getElem?_setIfInBounds_self_of_lt (by rw [hcom.size]; omega)]) hcs' (by omega) ?_ ?_ ?_ hrun
      · intro op hop; simp at hop; rcases hop with rfl | rfl | rfl | rfl <;> simp <;> omega
      · intro op hop; simp at hop; rcases hop with rfl | rfl | rfl | rfl <;> rfl
      · intro op hop; simp at hop; rcases hop with rfl | rfl | rfl | rfl <;> simp
  · -- INTO THE BUFFER
    have hpar : partners (gs.setIfInBounds (κ + i) ph) c false = [] := partners_nil fun x y hy => by
      by_cases e : x = 0
      · subst e
        rw [Array.getElem?_setIfInBounds_ne (by omega), ha] at hy; cases hy
        exact hno
      · exact hst x y e hy
    have hroom : buf.size < 6 := by
      rw [h2] at h3
      simp at h3; omega
    have hrun := crowd_send_room (P := P) (sl := sl) (i := κ + i) hg hgo' h1 hroom hpar
    rw [finishComm_send] at hrun
    refine after (buf.push v) (s + 1) rr st.q _ N f a _ (by rw [h2]; simp) h3 (fun _ _ _ => rfl) (by simp) (by rw [Array.getElem?_setIfInBounds_self_of_lt (by rw [hcom.size]; omega)]) (fun x hx e => by rw [Array.getElem?_setIfInBounds_ne (Ne.symm e)])
      (by rw [Array.getElem?_setIfInBounds_ne (by omega)]; exact ha) (hcs.rely (by have := rof_chan hcom hi 6 (buf.push v) false (s + 1) rr false; rw [ec] at this; exact this) fun c' z' g2' hc' e => ?_) (Nat.le_refl _) ?_ ?_ ?_ hrun
    · by_cases ecc : c' = c
      · subst ecc
        rw [e, offersAt_parked_recv, if_pos rfl] at hno; cases hno
      · exact heap_setChan_ne' _ _ _ _ _ _ _ _ ecc
    · intro op hop; simp at hop; rcases hop with rfl | rfl <;> simp <;> omega
    · intro op hop; simp at hop; rcases hop with rfl | rfl <;> rfl
    · intro op hop; simp at hop; rcases hop with rfl | rfl <;> simp
end

end Go.Proofs.Ytiodikflmijhkaa.Farm
/- The farm: a worker's close, its way through Done; every step of a worker's. No program is named here. -/
set_option linter.unusedSectionVars false
set_option linter.unusedVariables false
namespace Go.Proofs.Ytiodikflmijhkaa.Farm
open Go.Conc Go.ConcN
open Go.ConcR (KK wgBlock WgAt stA smA rd wr mk Payload Aside2 DC0 Bk g_of_ofEvents loc_of_ofEvent ofEvent_loc_mark again_blocked bk_of_mute ofEvent_cell)
variable [Payload]

theorem closeEv_ok {grp : Nat → Prop} {S : Loc → Prop} {wg : Option Addr} {B c : Nat} (hc : c < B) (hg : grp c) : ∀ e ∈ closeEvents c, EvW' grp wg S B e := by
  intro e he
  simp only [closeEvents, List.mem_toArray, List.mem_cons, List.not_mem_nil, or_false] at he
  rcases he with rfl | rfl
  · refine ⟨fun x hx => ?_, by simp, tlow_of_low (show (MemAct.ofEvent _).low B from hc)⟩
    simp only [MemAct.ofEvent, MemAct.touch?, Option.some.injEq] at hx
    subst hx
    exact .inl ⟨hg, by simp, by simp⟩
  · refine ⟨fun x hx => ?_, by simp, tlow_of_low (show (MemAct.ofEvent _).low B from hc)⟩
    simp only [MemAct.ofEvent, MemAct.touch?] at hx
    cases hx

theorem evW_of_Bk {grp : Nat → Prop} {S : Loc → Prop} {a0 : Option Addr} {B wg : Nat} (hg : grp wg) (hB : wg < B) {e : Event} (h : Bk wg e) : EvW' grp a0 S B e := by
  rcases h with h1 | h1 | ⟨a, wr, rfl, ha⟩
  · exact ⟨fun x hx => (by rw [ofEvent_loc_mark h1] at hx; cases hx), fun a _ => (by rw [h1]; simp), tlow_of_none (by rw [ofEvent_loc_mark h1]; rfl)⟩
  · exact ⟨fun x hx => (by rw [ofEvent_loc_mark h1] at hx; cases hx), fun a _ => (by rw [h1]; simp), tlow_of_none (by rw [ofEvent_loc_mark h1]; rfl)⟩
  · refine ⟨fun x hx => ?_, by simp, tlow_of_low (by rw [ofEvent_cell]; show a.block < B; omega)⟩
    simp only [ofEvent_cell, MemAct.touch?, Option.some.injEq] at hx
    subst hx
    exact .inl ⟨by show grp a.block; rw [ha]; exact hg, by simp, by simp⟩
/-- What the library's words list ahead of the release. -/
theorem evW_of_EvW {grp : Nat → Prop} {S : Loc → Prop} {B wg : Nat} (hg : grp wg) (hB : wg < B) {e : Event} (h : EvW wg No No 1 e) : EvW' grp (some (stA wg)) S B e := by
  have ht : ∀ x, (MemAct.ofEvent e).touch? = some x → ShN wg x.loc ∧ x.kind ≠ .plain ∧ x.kind ≠ .said := fun x hx => by
    rcases (h.1 default "").2 x hx with h1 | h1 | h1
    · exact h1
    · exact h1.elim
    · exact h1.1.elim
  refine ⟨fun x hx => ?_, fun a ha => by cases ha; exact h.2.2.2, fun x hx => ⟨fun a hl => ?_, fun r hl => ?_⟩⟩
  · obtain ⟨⟨a, e1, e2⟩, h2⟩ := ht x hx
    exact .inl ⟨by rw [e1]; show grp a.block; rw [e2]; exact hg, h2⟩
  · obtain ⟨⟨a', e1, e2⟩, _⟩ := ht x hx
    rw [hl] at e1; cases e1; omega
  · obtain ⟨⟨a', e1, e2⟩, _⟩ := ht x hx
    rw [hl] at e1; cases e1

section
variable {P : Program} {ty : TypeId} {Post : MSt → Goroutine → World → Prop} {κ j : Nat} {gs : Array Goroutine} {w w' : World} {sl : Option (Nat × Nat)} {t : Trace} {D : Nat → KD} {So : Nat → Nat → Prop} {qo : Nat → Nat} {st : MSt} {N f : Nat} {b : Bool} {a : Goroutine}

set_option maxHeartbeats 1600000 in
theorem closeStep (ha : gs[0]? = some a) (hcs : CS P ty Post st N f b a w) (hcom : Com P ty κ j gs w t D So qo st) (hgm : GM ty st j D b w) {i : Nat} (hi : i < j) {g g' : Goroutine} {Nw m C n : Nat} {val : Value} {S O : Nat → Prop} {c mo : Nat}
    (hD : D i = ⟨8 + Nw, mo, 0, S, O, c, []⟩) (hg : gs[κ + i]? = some g) (hOC : O C) (hmw : mayWake P g = true) (hg' : g'.status = .running) (hpay : PayAt C n w)
    (hcl : ∀ buf s r, w.heap[c]? = some (.chan 6 buf false s r false) → stepG P false g w = .go g' (w.setChan c 6 buf true s r false) (closeEvents c))
    (hG : Goes P false (RW ty st.wg C n 0 0) (DWs st.wg No No C n 1) (AtR0 P ty st.wg C n 0 1 val) m g' w) :
    ∃ m₁ ops μ', runT P (crowd gs w sl) (κ + i) = (.next m₁, ops) ∧ Lt2 μ' (mu κ j D qo N f) ∧ Inv P ty Post μ' m₁ (t ++ ops) := by
  have hl := hcom.notlaw hi
  obtain ⟨d', hd'⟩ : ∃ d' : KD, d' = ⟨7, m, 0, S, O, c, []⟩ := ⟨_, rfl⟩
  have ec : (D i).c = c := by rw [hD]
  have eS : (D i).S = S := by rw [hD]
  have eO : (D i).O = O := by rw [hD]
  obtain ⟨buf, s, r, h1, h2, h3⟩ := hcom.chan i hi
  rw [ec] at h1 h2 h3
  have est : decide ((D i).stage ≤ 7) = false := by rw [hD]; exact decide_eq_false (by simp; omega)
  have ess : (D i).ss = [] := by rw [hD]
  rw [est] at h1
  rw [ess] at h2
  have hclt : c < w.heap.size := by have := hcom.clt hi; rwa [ec] at this
  have hgo := hcl buf s r h1
  obtain ⟨w', hw'⟩ : ∃ w', w' = w.setChan c 6 buf true s r false := ⟨_, rfl⟩
  have hR : ROf ty st w w' := by have := rof_chan hcom hi 6 buf true s r false; rw [ec] at this; rw [hw']; exact this
  rw [← hw'] at hgo
  have hne : ∀ x, x ≠ c → w'.heap[x]? = w.heap[x]? := fun x hx => by rw [hw']; exact heap_setChan_ne' _ _ _ _ _ _ _ _ hx
  have hat : w'.heap[c]? = some (.chan 6 buf true s r false) := by rw [hw']; exact heap_setChan_at _ _ _ _ _ _ _ _ hclt
  have hsz : w'.heap.size = w.heap.size := by rw [hw']; exact size_setChan _ _ _ _ _ _ _ _
  have hcS : ∀ x, S x → x ≠ c := fun x hx e => hcom.ce hi hi (by rw [eS, ec]; exact e ▸ hx)
  have hwgc : st.wg ≠ c := by have := (hcom.cmay i hi).2.1; rw [ec] at this; omega
  have hSC : S C := by rw [← eS]; exact hcom.os i hi C (by rw [eO]; exact hOC)
  have eC := hne C (hcS C hSC)
  have hkeep : ∀ b', (b' = b ∨ (b = true ∧ b' = false)) → GM ty st j (upd D i d') b' w' := fun b' hb' => hgm.keep hi (by rw [hd', hD]; simp; omega) (hne _ hwgc) hb'
  have hcs' : ∃ f' b', CS P ty Post st N f' b' (Conc.woken P g g' w' a) w' ∧ f' ≤ f + 1 ∧ GM ty st j (upd D i d') b' w' := by
    by_cases hp : ∃ z g₂, a = parked g₂ #[rcase c z] (.recv true)
    · obtain ⟨z, g₂, rfl⟩ := hp
      have hbuf : buf = #[] := by
        generalize hA : parked g₂ #[rcase c z] (.recv true) = A at hcs
        cases hcs with
        | run h =>
          have := Goes.running (fun _ _ x => x.1) w (ROf.refl ty st w) h
          rw [← hA] at this; cases this
        | sem p1 p2 p3 =>
          have := (p3 w (ROf.refl ty st w)).off
          have eo := congrArg Goroutine.offers hA
          simp only [parked] at eo
          rw [this] at eo; cases eo
        | park p1 p2 p3 p4 p5 =>
          rename_i N c' z' g0 g2'
          have eo : (some (#[rcase c z], CommShape.recv true) : Option (Array CommCase × CommShape)) = some (#[rcase c' z'], CommShape.recv true) := congrArg Goroutine.offers hA
          have e1 : rcase c z = rcase c' z' := by simpa using eo
          obtain ⟨rfl, rfl⟩ : c = c' ∧ z = z' := by simpa [rcase] using e1
          obtain ⟨s0, r0, p4⟩ := p4
          rw [p4] at h1
          simp at h1; exact h1.1
      subst hbuf
      obtain ⟨f', h4, h5⟩ := hcs.closed hR hat hmw hg'
      refine ⟨f', false, h4, h5, hkeep false ?_⟩
      cases b
      · exact .inl rfl
      · exact .inr ⟨rfl, rfl⟩
    · obtain ⟨f', b', h4, h5, h6, _⟩ := hcs.woken hR (fun c' z' g2' _ e => hne _ fun e' => hp ⟨z', g2', by rw [← e']; exact e⟩) g g'
      exact ⟨f', b', h4, h5, hkeep b' h6⟩
  refine workerGo ha hcom hi hg hgo ?_ (by rw [hd', hD]) (by omega) (fun x hx _ _ hxc => hne x (by rw [← ec]; exact hxc i hi)) (fun x hx e => hne _ fun e' => e (hcom.cne x i hx hi (e'.trans ec.symm))) (live_of (hne _ hwgc)) (fun x hx => .inl (by rw [eS]; rw [hd'] at hx; exact hx)) (fun x hx => ?_)
    (fun x hx => by rw [hd'] at hx ⊢; exact ⟨by rw [← eS]; exact hcom.os i hi x (by rw [eO]; exact hx), .inl (by rw [eO]; exact hx)⟩) ?_ (fun _ => by rw [hd']) ?_ hcs' (.inl (by rw [hd', hD]; simp; omega))
  · rw [hd']
    obtain ⟨cs, hp1, hp2⟩ := hpay
    exact .lib hOC (Nat.le_refl _) ⟨cs, eC.trans hp1, hp2⟩ (.r0 (Goes.rely (R := RW ty st.wg C n 0 0) (fun _ _ _ a b => RW.trans a b) hG ⟨fun x hx => absurd hx (Nat.not_lt_zero _), live_of (hne _ hwgc), fun ⟨cs, h1, h2⟩ => ⟨cs, eC.trans h1, h2⟩, cell_of_block eC _⟩))
  · obtain ⟨_, _, _, _, cs, t', fr, h5⟩ := hcom.sw i hi x hx
    exact ⟨cs, t', fr, (hne x (hcS x (by rw [← eS]; exact hx))).trans h5⟩
  · rw [ec]
    exact ⟨buf, s, r, by rw [hd']; exact hat, by rw [hd']; exact h2, h3⟩
  · exact tf_worker hcom hi (by rw [hd', eS]) (by omega) (closeEv_ok (by omega) (ec ▸ (hcom.cmay i hi).1)) (by rw [hD, hd']; simp [closeEvents, deafBehind]) (fun h6 => by rw [hd'] at h6; simp at h6)

set_option maxHeartbeats 3200000 in
/-- A STEP BEHIND ITS CLOSE. -/
theorem libStep (ha : gs[0]? = some a) (hcs : CS P ty Post st N f b a w) (hcom : Com P ty κ j gs w t D So qo st) (hgm : GM ty st j D b w) {i : Nat} (hi : i < j) {g : Goroutine} {s m d C n c : Nat} {val : Value} {S O : Nat → Prop}
    (hD : D i = ⟨s, m, d, S, O, c, []⟩) (hg : gs[κ + i]? = some g) (hrun : g.status = .running) (hOC : O C) (h7 : s ≤ 7) (hpay : PayAt C n w) (hs : WSit P ty st.wg C n No No 0 1 val s m d g w) :
    ∃ m₁ ops μ', runT P (crowd gs w sl) (κ + i) = (.next m₁, ops) ∧ Lt2 μ' (mu κ j D qo N f) ∧ Inv P ty Post μ' m₁ (t ++ ops) := by
  have hl := hcom.notlaw hi
  obtain ⟨hgw, hwlt⟩ := hcom.grp hl
  have ec : (D i).c = c := by rw [hD]
  have eS : (D i).S = S := by rw [hD]
  have eO : (D i).O = O := by rw [hD]
  have hSC : S C := by rw [← eS]; exact hcom.os i hi C (by rw [eO]; exact hOC)
  have hCW : C ≠ st.wg := hcom.wgS hi (by rw [eS]; exact hSC)
  have hCc : ∀ x, x < j → (D x).c ≠ C := fun x hx e => hcom.ce hi hx (by rw [eS, e]; exact hSC)
  have hwgc : ∀ x, x < j → (D x).c ≠ st.wg := fun x hx => by have := (hcom.cmay x hx).2.1; omega
  have e7 : (D7 D i).stage = s := by simp only [D7, hD]; omega
  have hdk : Deaf t (κ + i) = d := by rw [hcom.tf.deafW i hi, hD]
  obtain ⟨⟨sv, mv, hwg, hmode⟩, hbd, hbdm⟩ := hgm
  have hVj := Vc_le j (D7 D)
  -- whatever such a step does: the group's block, its own block C
  have go : ∀ {g' : Goroutine} {w' : World} {es : Array Event} {s' m' dd' : Nat}, stepG P false g w = .go g' w' es → w'.heap.size = w.heap.size → w'.tape = w.tape → w'.os = w.os → w'.output = w.output → (∀ x, x ≠ st.wg → x ≠ C → w'.heap[x]? = w.heap[x]?) → WgLive ty st.wg w' →
      PayAt C n w' → (∀ e ∈ es, EvW' st.grp (some (stA st.wg)) (fun l => ∃ a, l = .cell a ∧ (D i).S a.block) w.heap.size e) → WSit P ty st.wg C n No No 0 1 val s' m' dd' g' w' → deafBehind d es = dd' → s' ≤ 7 →
      (s' ≤ 6 → RelBy (stA st.wg) (t ++ MemOp.ofEvents (κ + i) g.frame.fn g.frame.place es) (κ + i) t.size ∨ (s ≤ 6 ∧ ∀ r, RelBy (stA st.wg) t (κ + i) r → RelBy (stA st.wg) (t ++ MemOp.ofEvents (κ + i) g.frame.fn g.frame.place es) (κ + i) r)) →
      (∀ b', (b' = b ∨ (b = true ∧ b' = false)) → (mayWake P g = true → g'.status = .running → b' = false) → ∃ s₁ m₁, WgAt ty st.wg w' s₁ m₁ ∧ ConcN.Mode j (upd (D7 D) i ⟨s', 0, 0⟩) (tgOf st.tag b') s₁ m₁) → (s' < s ∨ (s' = s ∧ m' + 1 = m)) →
      ∃ m₁ ops μ', runT P (crowd gs w sl) (κ + i) = (.next m₁, ops) ∧ Lt2 μ' (mu κ j D qo N f) ∧ Inv P ty Post μ' m₁ (t ++ ops) := by
    intro g' w' es s' m' dd' hgo hsz ht ho hout hne hlv hpay' hev hs' hdd hs7 hrel hmode' hlt
    obtain ⟨d', hd'⟩ : ∃ d' : KD, d' = ⟨s', m', dd', S, O, c, []⟩ := ⟨_, rfl⟩
    have hR : ROf ty st w w' := rof_of hcom hl ht ho hout (by omega) (X := fun x => x = st.wg ∨ x = C) (fun x hx => by
      rcases hx with rfl | rfl
      · exact ⟨fun hm => hm.elim (fun y => hcom.gm _ y hgw) fun y => Nat.lt_irrefl _ y.2.2, Nat.le_refl _⟩
      · refine ⟨fun hm => hm.elim (fun y => (hcom.sw i hi x (by rw [eS]; exact hSC)).2.1 y) fun y => (hcom.sw i hi x (by rw [eS]; exact hSC)).2.2.1 y.1, ?_⟩
        exact Nat.le_of_lt (hcom.ow i hi x (by rw [eO]; exact hOC))) (fun x _ hx => hne x (fun e => hx (.inl e)) (fun e => hx (.inr e))) (fun _ => hlv)
    obtain ⟨f', b', h4, h5, h6, h8⟩ := hcs.woken hR (fun c' _ _ hc' _ => by
      obtain ⟨x, hx, rfl⟩ := hcom.chs c' hl hc'
      exact hne _ (hwgc x hx) (hCc x hx)) g g'
    refine workerGo ha hcom hi hg hgo (d' := d') (by rw [hd']; exact .lib hOC hs7 hpay' hs') (by rw [hd', hD]) (by omega) (fun x _ hx1 hx2 _ => hne x hx1 fun e => hx2 (by rw [eO, e]; exact hOC)) (fun x hx _ => hne _ (hwgc x hx) (hCc x hx)) (fun _ => hlv) (fun x hx => .inl (by rw [eS]; rw [hd'] at hx; exact hx)) (fun x hx => ?_)
      (fun x hx => by rw [hd'] at hx ⊢; exact ⟨by rw [← eS]; exact hcom.os i hi x (by rw [eO]; exact hx), .inl (by rw [eO]; exact hx)⟩) ?_ (fun _ => by rw [hd']) ?_ ⟨f', b', h4, h5, ?_⟩ (by rw [hd', hD]; exact hlt)
    · obtain ⟨_, _, _, _, cs, t', fr, h5⟩ := hcom.sw i hi x hx
      by_cases e : x = C
      · subst e
        obtain ⟨cs', hp1, _⟩ := hpay'
        exact ⟨cs', _, _, hp1⟩
      · exact ⟨cs, t', fr, (hne x (hcom.wgS hi hx) e).trans h5⟩
    · obtain ⟨buf, s0, r0, h1, h2, h3⟩ := hcom.chan i hi
      have e3 : (D i).ss = [] := by rw [hD]
      rw [e3] at h2
      refine ⟨buf, s0, r0, ?_, by rw [hd']; exact h2, h3⟩
      have e1 : d'.c = (D i).c := by rw [hd', hD]
      have e2 : decide (d'.stage ≤ 7) = decide ((D i).stage ≤ 7) := by rw [hd', hD, decide_eq_true hs7, decide_eq_true h7]
      rw [e1, e2, hne _ (hwgc i hi) (hCc i hi)]
      exact h1
    · exact tf_worker hcom hi (by rw [hd', eS]) (by omega) (by rw [hsz]; exact hev) (by rw [hD, hd']; exact hdd) (fun h6' => (hrel (by rw [hd'] at h6'; exact h6')).imp id fun x => ⟨by rw [hD]; exact x.1, x.2⟩)
    · obtain ⟨s₁, m₁, g1, g2⟩ := hmode' b' h6 h8
      have e9 : D7 (upd D i d') = upd (D7 D) i ⟨s', 0, 0⟩ := by rw [D7_upd, hd']; simp only [Nat.min_eq_left hs7]
      have hv := Vc_upd (D7 D) (⟨s', 0, 0⟩ : WD) hi
      have hle : cnt (⟨s', 0, 0⟩ : WD) ≤ cnt (D7 D i) := by
        simp only [cnt, e7]
        split <;> split <;> omega
      exact ⟨⟨s₁, m₁, g1, by rw [e9]; exact g2⟩, fun p hp => by rw [e9]; have := hbd p hp; omega, hbdm⟩
  have aside : ∀ {w' : World}, Aside st.wg w w' → w'.heap.size = w.heap.size ∧ w'.tape = w.tape ∧ w'.os = w.os ∧ w'.output = w.output ∧ (∀ x, x ≠ st.wg → x ≠ C → w'.heap[x]? = w.heap[x]?) ∧ PayAt C n w' := fun h => by
    obtain ⟨cs, h1, h2⟩ := hpay
    exact ⟨h.size, h.tape, h.os, h.output, fun x hx _ => h.block x hx, cs, (h.block C hCW).trans h1, h2⟩
  have live : WgLive ty st.wg w := ⟨_, _, hwg⟩
  -- A STEP OF THE LIBRARY's BOOKKEEPING
  have bookG : ∀ {g' : Goroutine} {w' : World} {es : Array Event} {s' m' dd' : Nat} {st' sm' : Int}, stepG P false g w = .go g' w' es → Aside st.wg w w' → WgAt ty st.wg w' st' sm' → (∀ e ∈ es, Bk st.wg e) →
      (∀ jx e, es[jx]? = some e → (MemAct.ofEvent e).touch? = none ∨ 0 < deafBehind d (es.extract 0 jx)) → WSit P ty st.wg C n No No 0 1 val s' m' dd' g' w' → deafBehind d es = dd' → s ≤ 6 → s' ≤ s →
      (∀ b', (b' = b ∨ (b = true ∧ b' = false)) → (mayWake P g = true → g'.status = .running → b' = false) → ConcN.Mode j (upd (D7 D) i ⟨s', 0, 0⟩) (tgOf st.tag b') st' sm') → (s' < s ∨ (s' = s ∧ m' + 1 = m)) →
      ∃ m₁ ops μ', runT P (crowd gs w sl) (κ + i) = (.next m₁, ops) ∧ Lt2 μ' (mu κ j D qo N f) ∧ Inv P ty Post μ' m₁ (t ++ ops) := by
    intro g' w' es s' m' dd' st' sm' hgo hAs hwg' hbk hd hs' hdd h6 hle hmode' hlt
    obtain ⟨a1, a2, a3, a4, a5, a6⟩ := aside hAs
    exact go hgo a1 a2 a3 a4 a5 ⟨_, _, hwg'⟩ a6 (fun e he => evW_of_Bk hgw hwlt (hbk e he)) hs' hdd (by omega) (fun _ => .inr ⟨h6, fun r hr => hr.book hdk _ _ hbk hd⟩) (fun b' h1 h2 => ⟨_, _, hwg', hmode' b' h1 h2⟩) hlt
  have book : ∀ {g' : Goroutine} {w' : World} {es : Array Event} {s' m' dd' : Nat} {st' sm' : Int}, stepG P false g w = .go g' w' es → Aside st.wg w w' → WgAt ty st.wg w' st' sm' → (∀ e ∈ es, Bk st.wg e) →
      (∀ jx e, es[jx]? = some e → (MemAct.ofEvent e).touch? = none ∨ 0 < deafBehind d (es.extract 0 jx)) → WSit P ty st.wg C n No No 0 1 val s' m' dd' g' w' → deafBehind d es = dd' → s ≤ 6 → s' ≤ s →
      ConcN.Mode j (upd (D7 D) i ⟨s', 0, 0⟩) (tgOf st.tag b) st' sm' → (s' < s ∨ (s' = s ∧ m' + 1 = m)) →
      ∃ m₁ ops μ', runT P (crowd gs w sl) (κ + i) = (.next m₁, ops) ∧ Lt2 μ' (mu κ j D qo N f) ∧ Inv P ty Post μ' m₁ (t ++ ops) :=
    fun hgo hAs hwg' hbk hd hs' hdd h6 hle hmode' hlt => bookG hgo hAs hwg' hbk hd hs' hdd h6 hle (fun _ ht _ => hmode'.retag (tg_retag _ ht)) hlt
  have same : ConcN.Mode j (upd (D7 D) i ⟨s, 0, 0⟩) (tgOf st.tag b) sv mv := by have := hmode.same (i := i) 0 0; rwa [e7] at this
  have idle : ∀ {g' : Goroutine} {m' : Nat}, stepG P false g w = .go g' w #[] → WSit P ty st.wg C n No No 0 1 val s m' d g' w → m' + 1 = m → s ≤ 6 →
      ∃ m₁ ops μ', runT P (crowd gs w sl) (κ + i) = (.next m₁, ops) ∧ Lt2 μ' (mu κ j D qo N f) ∧ Inv P ty Post μ' m₁ (t ++ ops) := by
    intro g' m' hgo hs' hm h6
    exact book hgo (.refl st.wg w) hwg (by simp) (by simp) hs' rfl h6 (Nat.le_refl _) same (.inr ⟨rfl, hm⟩)
  have bk2 : ∀ e ∈ #[rd (stA st.wg), wr (stA st.wg)], Bk st.wg e := by intro e he; simp at he; rcases he with rfl | rfl <;> exact bk_cell _ _ rfl
  have bk1 : ∀ e ∈ #[rd (stA st.wg)], Bk st.wg e := by intro e he; simp at he; subst he; exact bk_cell _ _ rfl
  have bk1w : ∀ e ∈ #[wr (stA st.wg)], Bk st.wg e := by intro e he; simp at he; subst he; exact bk_cell _ _ rfl
  have df2 : ∀ jx e, (#[rd (stA st.wg), wr (stA st.wg)] : Array Event)[jx]? = some e → (MemAct.ofEvent e).touch? = none ∨ 0 < deafBehind 1 ((#[rd (stA st.wg), wr (stA st.wg)] : Array Event).extract 0 jx) := by
    intro jx e he
    match jx, he with
    | 0, _ => exact .inr (by simp [deafBehind])
    | 1, _ => exact .inr (by simp [deafBehind, rd])
    | jx + 2, he => simp at he
  have df1 : ∀ (ev : Event) jx e, (#[ev] : Array Event)[jx]? = some e → (MemAct.ofEvent e).touch? = none ∨ 0 < deafBehind 1 ((#[ev] : Array Event).extract 0 jx) := by
    intro ev jx e he
    match jx, he with
    | 0, _ => exact .inr (by simp [deafBehind])
    | jx + 1, he => simp at he
  cases hs with
  | r0 h =>
    rcases Goes.cases h with hstop | ⟨m', rfl, hstep⟩
    · obtain ⟨_, hhas, g', hgo, m₂, hk⟩ := hstop w (RW.refl w)
      obtain ⟨a1, a2, a3, a4, a5, a6⟩ := aside (.refl st.wg w)
      refine go hgo a1 a2 a3 a4 a5 live a6 (fun e he => ?_) (.k1 hk) rfl (by omega) (fun _ => .inl (RelBy.new hdk _ _)) (fun b' hb' _ => ⟨_, _, hwg, ((hmode.counted hi (by rw [e7]; omega) (.inl rfl) 0 0)).retag (tg_retag _ hb')⟩) (.inl (by omega))
      simp at he
      subst he
      exact ⟨fun x hx => (by cases hx), fun a _ => (by simp [mk]), tlow_of_none rfl⟩
    · obtain ⟨g', w', es, hgo, ⟨hac, hev⟩, hg'⟩ := hstep w (RW.refl w)
      have hwb : w'.heap[st.wg]? = w.heap[st.wg]? := hac.block _ (Ne.symm hCW)
      exact go hgo hac.size hac.tape hac.os hac.output (fun x _ hx => hac.block x hx) (live_of hwb live) (hac.pay hpay) (fun e he => evW_of_EvW hgw hwlt (hev e he)) (.r0 hg') (deafBehind_idle (fun e he => ⟨(hev e he).2.1, (hev e he).2.2.1⟩) 0) (by omega) (fun h6 => absurd h6 (by omega))
        (fun b' hb' _ => ⟨_, _, hwg.of_block hwb, same.retag (tg_retag _ hb')⟩) (.inr ⟨rfl, rfl⟩)
  | k1 h =>
    rcases Goes.cases h with hstop | ⟨m', rfl, hstep⟩
    · obtain ⟨_, g', hgo, m₂, hk⟩ := hstop w (RW.refl w)
      exact book hgo (.refl st.wg w) hwg (by intro e he; simp at he; subst he; exact .inl rfl) (by intro jx e he; exact .inl (by have := Array.mem_of_getElem? he; simp at this; subst this; rfl)) (.d1 hk) rfl (by omega) (by omega)
        (hmode.counted hi (by rw [e7]; omega) (.inr rfl) 0 0) (.inl (by omega))
    · obtain ⟨g', w', es, hgo, ⟨rfl, rfl⟩, hg'⟩ := hstep w (RW.refl w)
      exact idle hgo (.k1 hg') rfl (by omega)
  | d1 h =>
    rcases Goes.cases h with hstop | ⟨m', rfl, hstep⟩
    · obtain ⟨_, hall⟩ := hstop w (RW.refl w)
      have hc1 : cnt (D7 D i) = 1 := by simp [cnt, e7]
      have hV1 : 1 ≤ Vc j (D7 D) := by have := le_sumTo (f := fun x => cnt (D7 D x)) hi; simp only [Vc]; omega
      have hj1 := hcom.j1
      have opq : OpenSt j (D7 D) → OpenSt j (upd (D7 D) i ⟨1, 0, 0⟩) := fun h a ha => by
        by_cases e : a = i
        · subst e; rw [upd_same]; simp
        · rw [upd_ne (D7 D) _ e]; exact h a ha
      have hvq := Vc_upd (D7 D) (⟨1, 0, 0⟩ : WD) hi
      have c0 : cnt (⟨1, 0, 0⟩ : WD) = 0 := rfl
      generalize hT : tgOf st.tag b = T at hmode
      cases hmode with
      | opn h1 h2 h3 =>
        have hp1 : pend T ≤ 1 := by cases T <;> simp only [pend] <;> (try split) <;> omega
        obtain ⟨v, hv⟩ : ∃ v, Vc j (D7 D) + pend T = v + 1 := ⟨Vc j (D7 D) + pend T - 1, by omega⟩
        rw [hv] at hwg
        have hw1 : WgAt ty st.wg w (((v : Nat) + 1) * KK + ((0 : Nat) : Int)) 0 := by simpa using hwg
        obtain ⟨g', hgo, _, hq⟩ := hall v 0 (by omega) (by omega) hw1
        obtain ⟨q, hq⟩ := hq (by omega)
        have hv' : Vc j (upd (D7 D) i ⟨1, 0, 0⟩) + pend T = v := by omega
        refine book hgo (aside_setCell w (stA st.wg) _) (hwg.setSt _) bk2 df2 (.quit hq) rfl (by omega) (by omega) ?_ (.inl (by omega))
        have e : ((v : Nat) : Int) * KK + ((0 : Nat) : Int) = ((Vc j (upd (D7 D) i ⟨1, 0, 0⟩) + pend T : Nat) : Int) * KK := by rw [hv']; simp
        rw [e, hT]
        exact .opn h1 (opq h2) (fun vs ev => by have := h3 vs ev; omega)
      | reg h1 h2 h3 =>
        obtain ⟨v, hv⟩ : ∃ v, Vc j (D7 D) = v + 1 := ⟨Vc j (D7 D) - 1, by omega⟩
        rw [hv] at hwg
        have hw1 : WgAt ty st.wg w (((v : Nat) + 1) * KK + ((1 : Nat) : Int)) 0 := by simpa using hwg
        obtain ⟨g', hgo, hl', hq⟩ := hall v 1 (by omega) (by omega) hw1
        by_cases hv0 : v = 0
        · subst hv0
          obtain ⟨m₂, hk⟩ := hl' ⟨rfl, rfl⟩
          refine book hgo (aside_setCell w (stA st.wg) _) (hwg.setSt _) bk2 df2 (.d2 hk) rfl (by omega) (by omega) ?_ (.inl (by omega))
          have hoth : ∀ a, a < j → a ≠ i → (D7 D a).stage = 1 := fun a ha e => by
            have c0 := others_uncounted hi hv hc1 a ha e
            have := h2 a ha
            simp only [cnt] at c0
            split at c0 <;> omega
          have := ConcN.Mode.last (j := j) (D := upd (D7 D) i ⟨4, 0, 0⟩) (tag := T) i h1 hi (by rw [upd_same]; simp) (fun a ha e => by rw [upd_ne (D7 D) _ e]; exact hoth a ha e)
          rw [upd_same] at this
          rw [hT]
          simpa using this
        · obtain ⟨q, hq⟩ := hq (by omega)
          have hv' : Vc j (upd (D7 D) i ⟨1, 0, 0⟩) = v := by omega
          refine book hgo (aside_setCell w (stA st.wg) _) (hwg.setSt _) bk2 df2 (.quit hq) rfl (by omega) (by omega) ?_ (.inl (by omega))
          have e : ((v : Nat) : Int) * KK + ((1 : Nat) : Int) = ((Vc j (upd (D7 D) i ⟨1, 0, 0⟩) : Nat) : Int) * KK + 1 := by rw [hv']; simp
          rw [e, hT]
          exact .reg h1 (opq h2) (by omega)
      | last L _ h2 h3 h4 =>
        by_cases e : i = L
        · subst e; omega
        · have := h4 i hi e; omega
      | sema h2 => have := h2 i hi; omega
      | fin _ h2 => have := h2 i hi; omega
    · obtain ⟨g', w', es, hgo, ⟨rfl, rfl⟩, hg'⟩ := hstep w (RW.refl w)
      exact idle hgo (.d1 hg') rfl (by omega)
  | d2 h =>
    rcases Goes.cases h with hstop | ⟨m', rfl, hstep⟩
    · obtain ⟨_, hx⟩ := hstop w (RW.refl w)
      obtain ⟨hW3, hoth, rfl, rfl⟩ := hmode.isLast hi (by rw [e7]; omega)
      simp only [e7] at hwg
      obtain ⟨g', hgo, m₂, hk⟩ := hx (by simpa using hwg)
      refine book hgo (.refl st.wg w) hwg bk1 (df1 _) (.d3 hk) rfl (by omega) (by omega) ?_ (.inl (by omega))
      have := ConcN.Mode.last (j := j) (D := upd (D7 D) i ⟨3, 0, 0⟩) (tag := tgOf st.tag b) i hW3 hi (by rw [upd_same]; simp) (fun a ha e => by rw [upd_ne (D7 D) _ e]; exact hoth a ha e)
      rw [upd_same] at this
      simpa using this
    · obtain ⟨g', w', es, hgo, ⟨rfl, rfl⟩, hg'⟩ := hstep w (RW.refl w)
      exact idle hgo (.d2 hg') rfl (by omega)
  | d3 h =>
    rcases Goes.cases h with hstop | ⟨m', rfl, hstep⟩
    · obtain ⟨_, hx⟩ := hstop w (RW.refl w)
      obtain ⟨hW3, hoth, rfl, rfl⟩ := hmode.isLast hi (by rw [e7]; omega)
      simp only [e7] at hwg
      obtain ⟨g', hgo, m₂, hk⟩ := hx (by simpa using hwg)
      refine book hgo (aside_setCell w (stA st.wg) _) (hwg.setSt 0) bk1w (df1 _) (.d4 hk) rfl (by omega) (by omega) ?_ (.inl (by omega))
      have := ConcN.Mode.last (j := j) (D := upd (D7 D) i ⟨2, 0, 0⟩) (tag := tgOf st.tag b) i hW3 hi (by rw [upd_same]; simp) (fun a ha e => by rw [upd_ne (D7 D) _ e]; exact hoth a ha e)
      rw [upd_same] at this
      simpa using this
    · obtain ⟨g', w', es, hgo, ⟨rfl, rfl⟩, hg'⟩ := hstep w (RW.refl w)
      exact idle hgo (.d3 hg') rfl (by omega)
  | d4 h =>
    rcases Goes.cases h with hstop | ⟨m', rfl, hstep⟩
    · obtain ⟨_, hmw, hx⟩ := hstop w (RW.refl w)
      obtain ⟨hW3, hoth, rfl, rfl⟩ := hmode.isLast hi (by rw [e7]; omega)
      simp only [e7] at hwg
      obtain ⟨g', hgo, q, hq⟩ := hx (by simpa using hwg)
      have hrun' : g'.status = .running := by
        cases q with
        | zero => exact absurd hq.2 (by decide)
        | succ q => exact hq.elim (fun x => absurd x.2 (by decide)) (fun x => x.1)
      refine bookG hgo (aside_setCell w (smA st.wg) _) (hwg.setSm 1) (es := semEvents (smA st.wg)) ?_ ?_ (.quit hq) (by simp [deafBehind, semEvents]) (by omega) (by omega) ?_ (.inl (by omega))
      · intro e he
        simp [semEvents] at he
        rcases he with rfl | rfl | rfl | rfl
        · exact .inl rfl
        · exact bk_cell _ _ rfl
        · exact bk_cell _ _ rfl
        · exact .inr (.inl rfl)
      · intro jx e he
        match jx, he with
        | 0, he => simp [semEvents] at he; subst he; exact .inl rfl
        | 1, _ => exact .inr (by simp [deafBehind, semEvents])
        | 2, _ => exact .inr (by simp [deafBehind, semEvents])
        | 3, he => simp [semEvents] at he; subst he; exact .inl rfl
        | jx + 4, he => simp [semEvents] at he
      · intro b' hb' hw
        obtain rfl := hw hmw hrun'
        have e3 : tgOf st.tag false = .w3 := by
          cases hT : st.tag with
          | w3 => rfl
          | opn p => rw [hT] at hW3; cases p <;> exact hW3.elim
          | _ => rw [hT] at hW3; exact hW3.elim
        rw [e3]
        simp only [if_true]
        exact .sema fun a ha => by
          by_cases e : a = i
          · subst e; rw [upd_same]
          · rw [upd_ne (D7 D) _ e]; exact hoth a ha e
    · obtain ⟨g', w', es, hgo, ⟨rfl, rfl⟩, hg'⟩ := hstep w (RW.refl w)
      exact idle hgo (.d4 hg') rfl (by omega)
  | quit h =>
    cases m with
    | zero => rw [h.1] at hrun; cases hrun
    | succ q =>
      rcases h with ⟨hf, _⟩ | ⟨_, g', es, hmute, hstep, hq⟩
      · rw [hf] at hrun; cases hrun
      · have hbk : ∀ e ∈ es, Bk st.wg e := fun e he => bk_of_mute (hmute e he)
        have hno : ∀ jx e, es[jx]? = some e → (MemAct.ofEvent e).touch? = none ∨ 0 < deafBehind d (es.extract 0 jx) := fun jx e he => .inl (touch_mute (hmute e (Array.mem_of_getElem? he)))
        exact book (hstep w) (.refl st.wg w) hwg hbk hno (.quit hq) rfl (by omega) (by omega) same (.inr ⟨rfl, rfl⟩)
end

end Go.Proofs.Ytiodikflmijhkaa.Farm
/- The farm: every step of a worker's; the starter's own steps. No program is named here. -/
set_option linter.unusedSectionVars false
set_option linter.unusedVariables false
namespace Go.Proofs.Ytiodikflmijhkaa.Farm
open Go.Conc Go.ConcN
open Go.ConcR (KK wgBlock WgAt stA smA rd wr mk Payload Aside2 DC0 Bk g_of_ofEvents loc_of_ofEvent ofEvent_loc_mark again_blocked bk_of_mute ofEvent_cell)
variable [Payload]

section
variable {P : Program} {ty : TypeId} {Post : MSt → Goroutine → World → Prop} {κ j : Nat} {gs : Array Goroutine} {w w' : World} {sl : Option (Nat × Nat)} {t : Trace} {D : Nat → KD} {So : Nat → Nat → Prop} {qo : Nat → Nat} {st st' : MSt} {N N' f f' : Nat} {b b' : Bool} {a a' : Goroutine}

set_option maxHeartbeats 800000 in
theorem stepWorker (ha : gs[0]? = some a) (hcs : CS P ty Post st N f b a w) (hcom : Com P ty κ j gs w t D So qo st) (hgm : st.tag ≠ .law → GM ty st j D b w) {i : Nat} (hi : i < j) {g : Goroutine} (hg : gs[κ + i]? = some g) (hrun : g.status = .running) :
    ∃ m₁ ops μ', runT P (crowd gs w sl) (κ + i) = (.next m₁, ops) ∧ Lt2 μ' (mu κ j D qo N f) ∧ Inv P ty Post μ' m₁ (t ++ ops) := by
  have hgm := hgm (hcom.notlaw hi)
  obtain ⟨g₁, hg₁, hs⟩ := hcom.wk i hi
  obtain rfl : g = g₁ := by rw [hg] at hg₁; exact Option.some.inj hg₁
  generalize hD : D i = d at hs
  cases hs with
  | lib hOC h7 hp hs => exact libStep ha hcs hcom hgm hi hD hg hrun hOC h7 hp hs
  | scr hN h =>
    rename_i Nw m c S O ss
    have hos : ∀ x, O x → S x := fun x hx => by have := hcom.os i hi x (by rw [hD]; exact hx); rwa [hD] at this
    rcases Goes.cases h with hstop | ⟨m', rfl, hstep⟩
    · obtain ⟨_, hst⟩ := hstop w (RK.refl w)
      cases hst with
      | new cs t' g' hgo hK =>
        cases Nw with
        | zero => exact hK.elim
        | succ Nw =>
          obtain ⟨m₂, hK⟩ := hK
          refine scrGo (d' := ⟨8 + Nw, m₂, 0, fun x => S x ∨ x = w.heap.size, fun x => O x ∨ x = w.heap.size, c, ss⟩) ha hcs hcom hgm hi hg hgo (.scr (by omega) hK) (by rw [hD]) (by rw [hD]) (by rw [hD]; simp) (by simp) (.inr ⟨cs, t', rfl⟩)
            (.inr ⟨by rw [hD], cs, t', rfl⟩) (fun x hx => ⟨hx.elim (fun y => .inl (hos x y)) .inr, by rw [hD]; exact hx⟩) (by simp) (by rw [hD]) (.inl (by rw [hD]; simp))
      | send v z r g₂ es hss hgo hev hK =>
        subst hss
        cases Nw with
        | zero => exact hK.elim
        | succ Nw =>
          obtain ⟨m₂, hK⟩ := hK
          exact sendStep ha hcs hcom hgm hi hD hN hg hgo hev hK
      | close g' C n m₂ val hss hOC hmw hr hp hcl hG =>
        subst hss
        exact closeStep ha hcs hcom hgm hi hD hg hOC hmw hr hp hcl hG
    · obtain ⟨g', w', es, hgo, ⟨⟨d, rfl⟩, hev⟩, hg'⟩ := hstep w (RK.refl w)
      exact scrGo (d' := ⟨8 + Nw, m', 0, S, O, c, ss⟩) ha hcs hcom hgm hi hg hgo (.scr hN hg') (by rw [hD]) (by rw [hD]) (by rw [hD]; simp) (by simp) (.inl ⟨d, rfl⟩) (.inl (by rw [hD])) (fun x hx => ⟨hos x hx, .inl (by rw [hD]; exact hx)⟩) (by rw [hD]; exact hev) (by rw [hD]) (.inr ⟨by rw [hD], by rw [hD]⟩)

theorem gs_main (h : Com P ty κ j gs w t D So qo st) (g g' : Goroutine) (w' : World) : ∀ x, 1 ≤ x → ((gs.map (Conc.woken P g g' w')).setIfInBounds 0 a')[x]? = gs[x]? := by
  intro x h1
  rw [get_map_set _ _ _ _ (by omega)]
  cases hgx : gs[x]? with
  | none => rfl
  | some y =>
    rcases Nat.lt_or_ge x κ with hlt' | hge
    · obtain ⟨z, hz, hq⟩ := h.old x h1 hlt'
      rw [hgx] at hz; cases hz
      simp [woken_quitsD hq]
    · have hxj : x - κ < j := by have := (Array.getElem?_eq_some_iff.1 hgx).1; rw [h.size] at this; omega
      obtain ⟨z, hz, hks⟩ := h.wk (x - κ) hxj
      rw [show κ + (x - κ) = x by omega, hgx] at hz; cases hz
      simp [hks.woken]

/-- THE MASTER LAW OF THE STARTER's OWN STEP. -/
theorem mainGo (ha : gs[0]? = some a) (hcom : Com P ty κ j gs w t D So qo st) {es : Array Event} (hgo : stepG P true a w = .go a' w' es) (hcs' : CS P ty Post st' N' f' b' a' w')
    (hcom' : Com P ty κ j ((gs.map (Conc.woken P a a' w')).setIfInBounds 0 a') w' (t ++ MemOp.ofEvents 0 a.frame.fn a.frame.place es) D So qo st') (hgm' : st'.tag ≠ .law → GM ty st' j D b' w') (hlt : N' < N ∨ (N' = N ∧ f' < f)) :
    ∃ m₁ ops μ', runT P (crowd gs w sl) 0 = (.next m₁, ops) ∧ Lt2 μ' (mu κ j D qo N f) ∧ Inv P ty Post μ' m₁ (t ++ ops) := by
  have hrun := runT_crowd_go (P := P) (sl := sl) (i := 0) ha (by simpa using hgo)
  refine ⟨_, _, mu κ j D qo N' f', hrun, ?_, _, w', sl, κ, j, D, So, qo, st', N', f', b', a', rfl, get_map_set_same _ _ _ (by rw [hcom.size]; have := hcom.k1; omega), hcs', hcom', hgm', rfl⟩
  unfold mu
  rcases hlt with h | ⟨rfl, h⟩
  · exact Prod.Lex.left _ _ (by omega)
  · exact Prod.Lex.right _ (by omega)

theorem not_rd (h : Com P ty κ j gs w t D So qo st) {l : Loc} (hl : (∃ x, l = .cell x ∧ st.may x.block) ∨ ∃ r, l = .obj r ∧ st.may r) : ∀ k, 1 ≤ k → k ≤ κ + j - 1 → ¬ RdF κ j D So k l := by
  rintro k _ _ ⟨y, hy, hh⟩
  rcases hl with ⟨x, rfl, hx⟩ | ⟨r, rfl, _⟩
  · cases hy
    rcases hh with ⟨h1, h2⟩ | ⟨h1, h2, h3⟩
    · exact (h.so k h1 _ h2).2.1 hx
    · exact (h.sw _ (by omega) _ h3).2.1 hx
  · cases hy

theorem tf_main (h : Com P ty κ j gs w t D So qo st) {fn : FuncId} {pos : String} {es : Array Event} (hsz : w.heap.size ≤ w'.heap.size) (hev : ∀ e ∈ es, EvM st w'.heap.size e) :
    TF κ j w'.heap.size st.grp (RdF κ j D So) st.d (fun x => (D x).deaf) (aOf st) (fun x => (D x).stage ≤ 6) (t ++ MemOp.ofEvents 0 fn pos es) := by
  have := h.tf.main h.k1 h.apart (fn := fn) (pos := pos) (es := es) hsz fun e he => ⟨fun x hx => ?_, (hev e he).2.2.2.1, (hev e he).2.2.2.2⟩
  · rwa [deafBehind_idle (fun e he => ⟨(hev e he).2.1, (hev e he).2.2.1⟩)] at this
  · rcases (hev e he).1 x hx with h1 | ⟨h1, h2⟩
    · exact .inl h1
    · exact .inr ⟨h1, fun hw => not_rd h (h2 hw)⟩

/-- The library's bookkeeping, by the starter. -/
theorem tf_book (h : Com P ty κ j gs w t D So qo st) (hl : st.tag ≠ .law) {fn : FuncId} {pos : String} {es : Array Event} {d' : Nat} (hd : deafBehind st.d es = d') (hev : ∀ e ∈ es, Bk st.wg e) :
    TF κ j w.heap.size st.grp (RdF κ j D So) d' (fun x => (D x).deaf) (aOf st) (fun x => (D x).stage ≤ 6) (t ++ MemOp.ofEvents 0 fn pos es) := by
  obtain ⟨hg, hlt⟩ := h.grp hl
  have := h.tf.main h.k1 h.apart (fn := fn) (pos := pos) (es := es) (Nat.le_refl _) fun e he => ?_
  · rwa [hd] at this
  · rcases hev e he with h1 | h1 | ⟨x, wr, rfl, hx⟩
    · exact ⟨fun x hx => (by rw [ofEvent_loc_mark h1] at hx; cases hx), fun x => (by rw [h1]; simp), by rw [ofEvent_loc_mark h1]; trivial⟩
    · exact ⟨fun x hx => (by rw [ofEvent_loc_mark h1] at hx; cases hx), fun x => (by rw [h1]; simp), by rw [ofEvent_loc_mark h1]; trivial⟩
    · refine ⟨fun y hy => ?_, by simp, by rw [ofEvent_cell]; show x.block < _; omega⟩
      simp only [ofEvent_cell, MemAct.touch?, Option.some.injEq] at hy
      subst hy
      exact .inl ⟨by show st.grp x.block; rw [hx]; exact hg, by simp⟩

theorem GM.world (h : GM ty st j D b w) (hw : w'.heap[st.wg]? = w.heap[st.wg]?) : GM ty st j D b w' := by
  obtain ⟨⟨s, m, h1, h2⟩, h3, h4⟩ := h
  exact ⟨⟨s, m, h1.of_block hw, h2⟩, h3, h4⟩

theorem chan_same (h : Com P ty κ j gs w t D So qo st) (hs : ∀ x, x < j → w'.heap[(D x).c]? = w.heap[(D x).c]?) : ∀ x, x < j → ChanAt w' (st.q (D x).c) (D x) := fun x hx => by
  obtain ⟨buf, s, r, h1, h2⟩ := h.chan x hx
  exact ⟨buf, s, r, (hs x hx).trans h1, h2⟩

/-- AN IDLE STEP OF THE STARTER's. -/
theorem idleMain (ha : gs[0]? = some a) (hcom : Com P ty κ j gs w t D So qo st) (hgm : st.tag ≠ .law → GM ty st j D b w) {es : Array Event} (hgo : stepG P true a w = .go a' w' es) (hD : DM st w w' es) (hcs' : CS P ty Post st N f' b a' w') (hf : f' < f) :
    ∃ m₁ ops μ', runT P (crowd gs w sl) 0 = (.next m₁, ops) ∧ Lt2 μ' (mu κ j D qo N f) ∧ Inv P ty Post μ' m₁ (t ++ ops) := by
  have hw : st.tag ≠ .law → w'.heap[st.wg]? = w.heap[st.wg]? := fun hl => hD.keep _ (hcom.grp hl).2 fun hm => hcom.gm _ hm (hcom.grp hl).1
  refine mainGo ha hcom hgo hcs' (hcom.main (by simp) (gs_main hcom _ _ _) rfl rfl rfl rfl rfl Iff.rfl (fun _ => .inl) hD.size (fun x hx _ hm _ => hD.keep x hx hm) (fun hl => live_of (hw hl)) (chan_same hcom fun x hx => hD.keep _ (hcom.clt hx) (hcom.cm hx)) (tf_main hcom hD.size hD.evs) fun x h1 hx => ?_)
    (fun hl => (hgm hl).world (hw hl)) (.inr ⟨rfl, hf⟩)
  exact Deaf_other t (g' := 0) (by omega) _ g_of_ofEvents

/-- A STEP OF THE LIBRARY's BOOKKEEPING, BY THE STARTER: at most the group's block turns. -/
theorem bookMain (ha : gs[0]? = some a) (hcom : Com P ty κ j gs w t D So qo st) (hl : st.tag ≠ .law) {es : Array Event} (hgo : stepG P true a w = .go a' w' es) (hAs : Aside st.wg w w') (hev : ∀ e ∈ es, Bk st.wg e) {tag' : MTag} {d' bd' : Nat} (ht : tag' ≠ .law) (hd : deafBehind st.d es = d')
    (hcs' : CS P ty Post { st with tag := tag', d := d', bd := bd' } N' f' b' a' w') (hgm' : GM ty { st with tag := tag', d := d', bd := bd' } j D b' w') (hlt : N' < N ∨ (N' = N ∧ f' < f)) :
    ∃ m₁ ops μ', runT P (crowd gs w sl) 0 = (.next m₁, ops) ∧ Lt2 μ' (mu κ j D qo N f) ∧ Inv P ty Post μ' m₁ (t ++ ops) := by
  have hlv : WgLive ty st.wg w' := by obtain ⟨⟨s, m, h1, _⟩, _⟩ := hgm'; exact ⟨s, m, h1⟩
  refine mainGo ha hcom hgo hcs' (hcom.main (by simp) (gs_main hcom _ _ _) rfl rfl rfl rfl rfl ⟨fun e => absurd e ht, fun e => absurd e hl⟩ (fun _ => .inl) (Nat.le_of_eq hAs.size.symm) (fun x hx hx2 _ _ => hAs.block x hx2) (fun _ _ => hlv)
    (show ∀ x, x < j → ChanAt w' (st.q (D x).c) (D x) from chan_same hcom fun x hx => hAs.block _ (by have := (hcom.cmay x hx).2.1; omega)) (by rw [hAs.size]; exact tf_book hcom hl hd hev) fun x h1 hx => ?_) (fun _ => hgm') hlt
  exact Deaf_other t (g' := 0) (by omega) _ g_of_ofEvents
end

end Go.Proofs.Ytiodikflmijhkaa.Farm
/- The farm: the starter opens a group, starts a worker, receives, hears that all have done. No program is named here. -/
set_option linter.unusedSectionVars false
set_option linter.unusedVariables false
namespace Go.Proofs.Ytiodikflmijhkaa.Farm
open Go.Conc Go.ConcN
open Go.ConcR (KK wgBlock WgAt stA smA rd wr mk Payload Aside2 DC0 Bk g_of_ofEvents loc_of_ofEvent ofEvent_loc_mark again_blocked bk_of_mute ofEvent_cell ofEvent_mk)
variable [Payload]

section
variable {P : Program} {ty : TypeId} {Post : MSt → Goroutine → World → Prop} {κ j : Nat} {gs : Array Goroutine} {w w' : World} {sl : Option (Nat × Nat)} {t : Trace} {D : Nat → KD} {So : Nat → Nat → Prop} {qo : Nat → Nat} {st st' : MSt} {N N' f f' : Nat} {b b' : Bool} {a a' : Goroutine}

theorem CS.pos (h : CS P ty Post st N f b a w) : 0 < N := by cases h <;> omega

/-- It opens a group. -/
theorem wgStep (ha : gs[0]? = some a) (hcom : Com P ty κ j gs w t D So qo st) {g' : Goroutine} {Z may : Nat → Prop} (hl : st.tag = .law) (hbdm : True) (hgo : stepG P true a w = .go g' (w.alloc (wgBlock ty 0 0)) #[]) (hM : ∀ x, st.zone x ∨ w.heap.size ≤ x → Z x) (hm : ∀ x, may x → st.may x ∧ x < w.heap.size)
    (hK : Sc P ty Post N { st with tag := .opn false, wg := w.heap.size, bd := 0, grp := fun x => st.grp x ∨ x = w.heap.size, may := may, zone := Z, chs := fun _ => False } g' (w.alloc (wgBlock ty 0 0))) :
    ∃ m₁ ops μ', runT P (crowd gs w sl) 0 = (.next m₁, ops) ∧ Lt2 μ' (mu κ j D qo (N + 1) f) ∧ Inv P ty Post μ' m₁ (t ++ ops) := by
  obtain ⟨m, hcs'⟩ := sc_pos hK
  have hj := hcom.lawj hl
  subst hj
  have sz : (w.alloc (wgBlock ty 0 0)).heap.size = w.heap.size + 1 := by simp
  have eo : MemOp.ofEvents 0 a.frame.fn a.frame.place #[] = #[] := rfl
  refine mainGo (st' := { st with tag := .opn false, wg := w.heap.size, bd := 0, grp := fun x => st.grp x ∨ x = w.heap.size, may := may, zone := Z, chs := fun _ => False }) (b' := false) ha hcom hgo hcs' ?_ (fun _ => ?_) (.inl (Nat.lt_succ_self _))
  · rw [eo, Array.append_empty]
    refine ⟨by simp [hcom.size], hcom.k1, hcom.gsz, hcom.j1, fun i hi => by omega, fun x h1 hx => ?_, ?_, fun i hi => by omega, fun k hk x hx => ?_, fun i hi => by omega, fun i hi => by omega, fun i _ hi => by omega, fun i hi => by omega, fun i hi => by omega, fun i _ hi => by omega, fun i hi => by omega, fun _ _ h => h.elim, fun e => (by cases e), fun _ => ⟨.inr rfl, by rw [sz]; exact Nat.lt_succ_self _⟩, fun x hx => ?_, fun x hx => ?_, fun _ x hx => hM _ (.inr hx), fun _ x hx => ?_⟩
    · obtain ⟨g, hg, hq⟩ := hcom.old x h1 hx
      exact ⟨g, (gs_main hcom _ _ _ x h1).trans hg, hq⟩
    · have h1 := hcom.tf.alloc (grp' := fun x => st.grp x ∨ x = w.heap.size) (Rd' := RdF κ 0 D So) (B' := (w.alloc (wgBlock ty 0 0)).heap.size) (fun _ => .inl) (fun x hx => hx.imp id fun e => Nat.le_of_eq e.symm) (fun _ _ => id) (fun _ _ => .inl) (by rw [sz]; omega)
      exact ⟨h1.ct, h1.low, h1.deaf0, h1.deafW, ⟨t.size, Nat.le_refl _, fun x _ i hi => by simp [Trace.act?, Array.getElem?_eq_none hi], fun i hi => by omega⟩, h1.over⟩
    · obtain ⟨a1, a2, a3, a4⟩ := hcom.so k hk x hx
      exact ⟨hM _ (.inl a1), fun h => a2 (hm x h).1, fun h => h.elim a3 fun e => by omega, by rw [sz]; omega⟩
    · exact fun h => h.elim (hcom.gm x (hm x hx).1) fun e => by have := (hm x hx).2; omega
    · rw [sz]
      rcases hx with h | rfl
      · have := hcom.glt x h; omega
      · omega
    · rw [sz]; have := (hm x hx).2; omega
  · refine ⟨⟨0, 0, heap_alloc_new w _, ?_⟩, fun p hp => ?_, trivial⟩
    · have := ConcN.Mode.opn (j := 0) (D := D7 D) (tag := CTag.kd) trivial (fun i hi => by omega) (by simp)
      simpa [Vc, sumTo, pend, tgOf] using this
    · cases hp; simp [Vc, sumTo]

set_option maxHeartbeats 1600000 in
/-- It makes a channel. -/
theorem newcStep (ha : gs[0]? = some a) (hcom : Com P ty κ j gs w t D So qo st) (hgm : GM ty st j D b w) {g' : Goroutine} {o : Obj} (htag : st.tag = .opn false) (hgo : stepG P true a w = .go g' (w.alloc o) #[])
    (hK : Sc P ty Post N { st with grp := fun x => st.grp x ∨ x = w.heap.size } g' (w.alloc o)) :
    ∃ m₁ ops μ', runT P (crowd gs w sl) 0 = (.next m₁, ops) ∧ Lt2 μ' (mu κ j D qo (N + 1) f) ∧ Inv P ty Post μ' m₁ (t ++ ops) := by
  have hl : st.tag ≠ .law := by rw [htag]; simp
  obtain ⟨m, hcs'⟩ := sc_pos hK
  have hsame : ∀ x, x < w.heap.size → (w.alloc o).heap[x]? = w.heap[x]? := fun x hx => heap_alloc_ne _ _ hx
  have sz : (w.alloc o).heap.size = w.heap.size + 1 := by simp
  have eo : MemOp.ofEvents 0 a.frame.fn a.frame.place #[] = #[] := rfl
  have hw := hsame st.wg (hcom.grp hl).2
  have hg := hgm.world (w' := w.alloc o) hw
  refine mainGo (st' := { st with grp := fun x => st.grp x ∨ x = w.heap.size }) (b' := false) ha hcom hgo hcs' ?_ (fun _ => ⟨?_, hg.bd, hg.bdm⟩) (.inl (Nat.lt_succ_self _))
  · rw [eo, Array.append_empty]
    refine ⟨by simp [hcom.size], hcom.k1, hcom.gsz, hcom.j1, fun i hi => ?_, fun x h1 hx => ?_, ?_, fun i hi x hx => ?_, fun k hk x hx => ?_, hcom.os, hcom.ow, hcom.oo, fun i hi => ?_, hcom.shut, hcom.cne, fun i hi => ?_, hcom.chs, fun e => absurd e hl, fun _ => ⟨.inl (hcom.grp hl).1, by rw [sz]; exact Nat.lt_succ_of_lt (hcom.grp hl).2⟩, fun x hx => ?_, fun x hx => ?_, hcom.zn, fun _ x hx => ?_⟩
    · obtain ⟨g, hg, hks⟩ := hcom.wk i hi
      exact ⟨g, (gs_main hcom _ _ _ _ (by have := hcom.k1; omega)).trans hg, hks.rely (hcom.os i hi) ⟨by rw [sz]; omega, fun x hx => hsame x (hcom.sw i hi x hx).2.2.2.1, live_of hw⟩⟩
    · obtain ⟨g, hg, hq⟩ := hcom.old x h1 hx
      exact ⟨g, (gs_main hcom _ _ _ x h1).trans hg, hq⟩
    · have ea : aOf { st with grp := fun x => st.grp x ∨ x = w.heap.size } = aOf st := rfl
      rw [ea]
      exact hcom.tf.alloc (fun _ => .inl) (fun x hx => hx.imp id fun e => Nat.le_of_eq e.symm) (fun _ _ => id) (fun _ _ => .inl) (by rw [sz]; omega)
    · obtain ⟨a1, a2, a3, a4, cs, t, f, a5⟩ := hcom.sw i hi x hx
      exact ⟨a1, a2, fun h => h.elim a3 fun e => by omega, by rw [sz]; omega, cs, t, f, (hsame x a4).trans a5⟩
    · obtain ⟨a1, a2, a3, a4⟩ := hcom.so k hk x hx
      exact ⟨a1, a2, fun h => h.elim a3 fun e => by omega, by rw [sz]; omega⟩
    · exact chan_same hcom (fun x hx => hsame _ (hcom.clt hx)) i hi
    · obtain ⟨a1, a2, a3⟩ := hcom.cmay i hi
      exact ⟨.inl a1, a2, a3⟩
    · exact fun h => h.elim (hcom.gm x hx) fun e => by have := hcom.mlt hl x hx; omega
    · rw [sz]
      rcases hx with h | rfl
      · have := hcom.glt x h; omega
      · omega
    · rw [sz]; have := hcom.mlt hl x hx; omega
  · obtain ⟨sv, mv, h1, h2⟩ := hg.mode
    have e : tgOf st.tag b = tgOf st.tag false := by rw [htag]; cases b <;> rfl
    rw [e] at h2
    exact ⟨sv, mv, h1, h2⟩

theorem TF_congr {B : Nat} {grp : Nat → Prop} {Rd Rd' : Nat → Loc → Prop} {d0 : Nat} {dw : Nat → Nat} {a0 : Option Addr} {rl : Nat → Prop} (h : TF κ j B grp Rd d0 dw a0 rl t) (hr : ∀ k, 1 ≤ k → k ≤ κ + j - 1 → ∀ l, Rd' k l ↔ Rd k l) : TF κ j B grp Rd' d0 dw a0 rl t :=
  ⟨CT.congr h.ct hr, h.low, h.deaf0, h.deafW, h.gr, h.over⟩

set_option maxHeartbeats 1600000 in
/-- It starts a worker. -/
theorem goStep (ha : gs[0]? = some a) (hcom : Com P ty κ j gs w t D So qo st) (hgm : GM ty st j D b w) {g' child : Goroutine} {S : Nat → Prop} {c Nw : Nat} {vs : List Value} {may : Nat → Prop} (htag : st.tag = .opn true) (hd : st.d = 0) (hgo : stepG P true a w = .spawn g' child w #[]) (hm : ∀ x, may x → st.may x)
    (hS : ∀ x, S x → st.zone x ∧ ¬ may x ∧ ¬ st.grp x ∧ (x < st.wg ∨ st.may x) ∧ ∃ cs t f, w.heap[x]? = some (.cells cs t f)) (hc : w.heap[c]? = some (.chan 6 #[] false 0 0 false)) (hcm : st.grp c) (hcc : ¬ st.chs c) (hcw : st.wg < c) (hvs : vs.length ≤ 6) (hNw : Nw ≤ 10) (hgs : st.gs < 1000)
    (hwk : Wk P ty st.wg c Nw (fun _ => False) S vs child w) (hK : Sc P ty Post N { st with tag := .opn false, gs := st.gs + 1, may := may, chs := fun x => st.chs x ∨ x = c, q := upd st.q c vs } g' w) :
    ∃ m₁ ops μ', runT P (crowd gs w sl) 0 = (.next m₁, ops) ∧ Lt2 μ' (mu κ j D qo (N + 1) f) ∧ Inv P ty Post μ' m₁ (t ++ ops) := by
  have hl : st.tag ≠ .law := by rw [htag]; simp
  obtain ⟨m, hcs'⟩ := sc_pos hK
  have hk1 := hcom.k1
  cases Nw with
  | zero => exact hwk.elim
  | succ Nw =>
  obtain ⟨mw, hwk⟩ := hwk
  obtain ⟨d', hd'⟩ : ∃ d' : KD, d' = ⟨8 + Nw, mw, 0, S, fun _ => False, c, vs⟩ := ⟨_, rfl⟩
  have hrun := runT_crowd_spawn (P := P) (sl := sl) (i := 0) ha (by simpa using hgo)
  have eo : MemOp.ofEvents 0 a.frame.fn a.frame.place #[] = #[] := rfl
  rw [eo, hcom.size] at hrun
  obtain ⟨x, hx⟩ : ∃ x : MemOp, x = { g := 0, fn := a.frame.fn, pos := a.frame.place, act := .go (κ + j) } := ⟨_, rfl⟩
  obtain ⟨y, hy⟩ : ∃ y : MemOp, y = { g := κ + j, fn := child.frame.fn, pos := a.frame.place, act := .start } := ⟨_, rfl⟩
  rw [← hx, ← hy] at hrun
  rw [show ((#[] : Array MemOp).push x).push y = #[x, y] from rfl] at hrun
  have g0 : ∀ z, 1 ≤ z → z < κ + j → ((gs.setIfInBounds 0 g').push child)[z]? = gs[z]? := fun z h1 h2 => by
    rw [Array.getElem?_push_lt (by simp [hcom.size]; omega), ← Array.getElem?_eq_getElem, Array.getElem?_setIfInBounds_ne (by omega)]
  have gj : ((gs.setIfInBounds 0 g').push child)[κ + j]? = some child := by
    rw [show κ + j = (gs.setIfInBounds 0 g').size by simp [hcom.size], Array.getElem?_push_size]
  have hst : ∀ op ∈ #[x, y], op.act ≠ .mark .disable ∧ op.act ≠ .mark .enable := by
    intro op hop
    have : op = x ∨ op = y := by simpa using hop
    rcases this with rfl | rfl
    · rw [hx]; exact ⟨by simp, by simp⟩
    · rw [hy]; exact ⟨by simp, by simp⟩
  have en : ∀ i, i < j → (upd D j d') i = D i := fun i hi => upd_ne D _ (by omega)
  have ne' : ∀ i, i < j → (D i).c ≠ c := fun i hi e => hcc (e ▸ (hcom.cmay i hi).2.2)
  have nS : ∀ i, i < j → ∀ z, (D i).O z → ¬ S z := fun i hi z ho hs => by
    rcases (hS z hs).2.2.2.1 with h1 | h1
    · have := hcom.ow i hi z ho; omega
    · exact (hcom.sw i hi z (hcom.os i hi z ho)).2.1 h1
  obtain ⟨⟨sv, mv, hwg, hmode⟩, hbd, hbdm⟩ := hgm
  have hVj := Vc_le j (D7 D)
  refine ⟨_, _, mu κ (j + 1) (upd D j d') qo N (m + 1), hrun, ?_, _, w, sl, κ, j + 1, upd D j d', So, qo, _, N, m + 1, false, g', rfl, ?_, hcs', ?_, fun _ => ?_, rfl⟩
  · refine Prod.Lex.left _ _ ?_
    have e2 : sumTo (j + 1) (fun i => (upd D j d' i).stage) = sumTo j (fun i => (D i).stage) + (8 + Nw) := by
      simp only [sumTo, upd_same]
      rw [sumTo_upd_out D _ KD.stage (Nat.le_refl _), hd']
    rw [e2]
    omega
  · rw [Array.getElem?_push_lt (by simp [hcom.size]; omega), ← Array.getElem?_eq_getElem, Array.getElem?_setIfInBounds_self_of_lt (by rw [hcom.size]; omega)]
  · refine ⟨by simp [hcom.size]; omega, hk1, by show st.gs + 1 = _; rw [hcom.gsz]; omega, by have := hcom.gsz; omega, fun i hi => ?_, fun z h1 hz => ?_, ?_, fun i hi z hz => ?_, fun k hk z hz => ?_, fun i hi z hz => ?_, fun i hi z hz => ?_, fun i i' hi hi' e z ho hs => ?_, fun i hi => ?_, fun i hi h7 => ?_, fun i i' hi hi' e => ?_, fun i hi => ?_, fun z _ hz => ?_, fun e => (by cases e), fun _ => hcom.grp hl, fun z hz => hcom.gm z (hm z hz), hcom.glt, fun _ => hcom.zn hl, fun _ z hz => hcom.mlt hl z (hm z hz)⟩
    · rcases Nat.lt_or_ge i j with hlt | hge
      · obtain ⟨g, hg, hk⟩ := hcom.wk i hlt
        exact ⟨g, (g0 _ (by omega) (by omega)).trans hg, by rw [en i hlt]; exact hk⟩
      · obtain rfl : i = j := by omega
        exact ⟨child, gj, by rw [upd_same, hd']; exact .scr (by omega) hwk⟩
    · obtain ⟨g, hg, hq⟩ := hcom.old z h1 hz
      exact ⟨g, (g0 z h1 (by omega)).trans hg, by rw [Deaf_still _ _ _ hst]; exact hq⟩
    · have h1 := TF_congr (Rd' := RdF κ (j + 1) (upd D j d') So) hcom.tf fun k k1 kj l => ?_
      · show TF κ (j + 1) w.heap.size st.grp _ st.d _ (aOf _) _ _
        have ea : aOf { st with tag := .opn false, gs := st.gs + 1, may := may, chs := fun x => st.chs x ∨ x = c, q := upd st.q c vs } = aOf st := by rw [aOf_some (by simp), aOf_some hl]
        rw [ea, hd]
        rw [hd] at h1
        have h2 := h1.fork hk1 (fun k l hl' => ?_) (x := x) (y := y) (by rw [hx]; exact ⟨rfl, rfl⟩) (by rw [hy]; exact ⟨rfl, rfl⟩) (rl' := fun i => (upd D j d' i).stage ≤ 6) (fun i hi h => by rw [en i hi] at h; exact h) (by rw [upd_same, hd']; simp; omega)
        · have e0 : (fun i => (upd D j d' i).deaf) = upd (fun i => (D i).deaf) j 0 := by rw [deaf_upd, hd']
          rw [e0]
          exact h2
        · obtain ⟨z, rfl, ⟨h1, h2⟩ | ⟨h1, h2, h3⟩⟩ := hl'
          · exact (hcom.so k h1 _ h2).2.2.1
          · rcases Nat.lt_or_ge (k - κ) j with hlt | hge
            · rw [en _ hlt] at h3; exact (hcom.sw _ hlt _ h3).2.2.1
            · rw [show k - κ = j by omega, upd_same, hd'] at h3; exact (hS _ h3).2.2.1
      · constructor
        · rintro ⟨z, rfl, ⟨h1, h2⟩ | ⟨h1, h2, h3⟩⟩
          · exact ⟨z, rfl, .inl ⟨h1, h2⟩⟩
          · rw [en _ (by omega)] at h3
            exact ⟨z, rfl, .inr ⟨h1, by omega, h3⟩⟩
        · rintro ⟨z, rfl, ⟨h1, h2⟩ | ⟨h1, h2, h3⟩⟩
          · exact ⟨z, rfl, .inl ⟨h1, h2⟩⟩
          · exact ⟨z, rfl, .inr ⟨h1, by omega, by rw [en _ (by omega)]; exact h3⟩⟩
    · rcases Nat.lt_or_ge i j with hlt | hge
      · rw [en i hlt] at hz
        obtain ⟨a1, a2, a3, a4, a5⟩ := hcom.sw i hlt z hz
        exact ⟨a1, fun h => a2 (hm z h), a3, a4, a5⟩
      · obtain rfl : i = j := by omega
        rw [upd_same, hd'] at hz
        obtain ⟨a1, a2, a3, _, cs, t', f', a5⟩ := hS z hz
        exact ⟨a1, a2, a3, (Array.getElem?_eq_some_iff.1 a5).1, cs, t', f', a5⟩
    · obtain ⟨a1, a2, a3, a4⟩ := hcom.so k hk z hz
      exact ⟨a1, fun h => a2 (hm z h), a3, a4⟩
    · rcases Nat.lt_or_ge i j with hlt | hge
      · rw [en i hlt] at hz ⊢; exact hcom.os i hlt z hz
      · obtain rfl : i = j := by omega
        rw [upd_same, hd'] at hz; exact hz.elim
    · rcases Nat.lt_or_ge i j with hlt | hge
      · rw [en i hlt] at hz; exact hcom.ow i hlt z hz
      · obtain rfl : i = j := by omega
        rw [upd_same, hd'] at hz; exact hz.elim
    · rcases Nat.lt_or_ge i j with hlt | hge
      · rw [en i hlt] at ho
        rcases Nat.lt_or_ge i' j with hlt' | hge'
        · rw [en i' hlt'] at hs; exact hcom.oo i i' hlt hlt' e z ho hs
        · obtain rfl : i' = j := by omega
          rw [upd_same, hd'] at hs; exact nS i hlt z ho hs
      · obtain rfl : i = j := by omega
        rw [upd_same, hd'] at ho; exact ho.elim
    · rcases Nat.lt_or_ge i j with hlt | hge
      · rw [en i hlt]
        show ChanAt w (upd st.q c vs (D i).c) (D i)
        rw [upd_ne _ _ (ne' i hlt)]
        exact hcom.chan i hlt
      · obtain rfl : i = j := by omega
        rw [upd_same, hd']
        show ChanAt w (upd st.q c vs c) _
        rw [upd_same]
        have e0 : decide (8 + Nw ≤ 7) = false := decide_eq_false (by omega)
        exact ⟨#[], 0, 0, by simp only [e0]; exact hc, rfl, hvs⟩
    · rcases Nat.lt_or_ge i j with hlt | hge
      · rw [en i hlt] at h7 ⊢; exact hcom.shut i hlt h7
      · obtain rfl : i = j := by omega
        rw [upd_same, hd'] at h7; simp at h7; omega
    · rcases Nat.lt_or_ge i j with hlt | hge <;> rcases Nat.lt_or_ge i' j with hlt' | hge'
      · rw [en i hlt, en i' hlt'] at e; exact hcom.cne i i' hlt hlt' e
      · obtain rfl : i' = j := by omega
        rw [en i hlt, upd_same, hd'] at e; exact absurd e (ne' i hlt)
      · obtain rfl : i = j := by omega
        rw [en i' hlt', upd_same, hd'] at e; exact absurd e.symm (ne' i' hlt')
      · omega
    · rcases Nat.lt_or_ge i j with hlt | hge
      · rw [en i hlt]
        obtain ⟨a1, a2, a3⟩ := hcom.cmay i hlt
        exact ⟨a1, a2, .inl a3⟩
      · obtain rfl : i = j := by omega
        rw [upd_same, hd']
        exact ⟨hcm, hcw, .inr rfl⟩
    · rcases hz with h | rfl
      · obtain ⟨i, hi, e⟩ := hcom.chs z hl h
        exact ⟨i, by omega, by rw [en i hi]; exact e⟩
      · exact ⟨j, by omega, by rw [upd_same, hd']⟩
  · have htg : tgOf st.tag b = .sp 0 3 := by rw [htag]; rfl
    rw [htg] at hmode
    obtain ⟨ho, rfl, rfl, _⟩ := hmode.open_inv trivial
    have e8 : D7 (upd D j d') = upd (D7 D) j ⟨7, 0, 0⟩ := by rw [D7_upd, hd']; simp only [show min (8 + Nw) 7 = 7 by omega]
    have eV : Vc (j + 1) (D7 (upd D j d')) = Vc j (D7 D) + 1 := by
      rw [e8]
      simp only [Vc, sumTo, upd_same]
      rw [sumTo_upd_out (D7 D) _ cnt (Nat.le_refl _)]; rfl
    have hp : pend (.sp 0 3) = 1 := rfl
    have hb1 := hbd true htag
    refine ⟨⟨_, 0, hwg, ?_⟩, fun p hp' => ?_, hbdm⟩
    · have := ConcN.Mode.opn (j := j + 1) (D := D7 (upd D j d')) (tag := CTag.kd) trivial (fun i hi => ?_) (by simp)
      · rw [eV] at this
        simpa [pend, tgOf] using this
      · rw [e8]
        rcases Nat.lt_or_ge i j with hlt | hge
        · rw [upd_ne (D7 D) _ (by omega)]; exact ho i hlt
        · obtain rfl : i = j := by omega
          rw [upd_same]; simp
    · cases hp'
      rw [eV]
      simp at hb1 ⊢
      exact hb1

set_option maxHeartbeats 1600000 in
/-- It receives. -/
theorem recvStep (ha : gs[0]? = some a) (hcom : Com P ty κ j gs w t D So qo st) (hgm : GM ty st j D b w) {c : Nat} {z : Value} {g₂ : Goroutine} (htag : st.tag = .opn false) (hd : st.d = 0) (hchs : st.chs c) (hR : RecvAt P ty (Sc P ty Post N) st c z a g₂ w) (hf : 0 < f) :
    ∃ m₁ ops μ', runT P (crowd gs w sl) 0 = (.next m₁, ops) ∧ Lt2 μ' (mu κ j D qo (N + 1) f) ∧ Inv P ty Post μ' m₁ (t ++ ops) := by
  have hl : st.tag ≠ .law := by rw [htag]; simp
  have hk1 := hcom.k1
  obtain ⟨es, hgo, hev⟩ := hR.step w (ROf.refl ty st w)
  obtain ⟨i, hi, rfl⟩ := hcom.chs c hl hchs
  obtain ⟨buf, s, r, h1, h2, h3⟩ := hcom.chan i hi
  have hclt := hcom.clt hi
  have hgo' : stepG P ((0 : Nat) == 0) a w = .comm g₂ #[rcase (D i).c z] true (.recv true) w es := hgo
  have hpar : partners (gs.setIfInBounds 0 ph) (D i).c true = [] := partners_nil fun x y hy => by
    rcases getElem?_stand gs 0 x y hy with ⟨_, rfl⟩ | ⟨hx, hy'⟩
    · exact offersAt_ph _ _
    · exact offers_worker hcom (by omega) hy' _ _
  have others : ∀ (y : Goroutine) x, 1 ≤ x → (gs.setIfInBounds 0 y)[x]? = gs[x]? := fun y x hx => Array.getElem?_setIfInBounds_ne (by omega)
  have g0 : ∀ y : Goroutine, (gs.setIfInBounds 0 y)[0]? = some y := fun y => Array.getElem?_setIfInBounds_self_of_lt (by rw [hcom.size]; omega)
  have tf0 := tf_main (w' := w) (fn := a.frame.fn) (pos := a.frame.place) hcom (Nat.le_refl _) hev
  -- the flag says nothing here
  have hgmf : ∀ b', GM ty st j D b' w := fun b' => by
    obtain ⟨⟨s0, m0, p1, p2⟩, p3, p4⟩ := hgm
    refine ⟨⟨s0, m0, p1, ?_⟩, p3, p4⟩
    rw [htag] at p2 ⊢
    exact p2
  have fin : ∀ (u : Trace) (w' : World) (q' : Nat → List Value) (a' : Goroutine) (N' f' : Nat), CS P ty Post { st with q := q' } N' f' false a' w' → (N' < N + 1 ∨ (N' = N + 1 ∧ f' < f)) → w'.heap.size = w.heap.size → (∀ x, x ≠ (D i).c → w'.heap[x]? = w.heap[x]?) → (∀ x, x < j → ChanAt w' (q' (D x).c) (D x)) →
      (∀ op ∈ u, op.g ≤ κ + j - 1) → (∀ op ∈ u, op.act.touch? = none) → (∀ op ∈ u, op.act ≠ .mark .disable ∧ op.act ≠ .mark .enable ∧ ∀ x, op.act ≠ .mark (.release x)) →
      runT P (crowd gs w sl) 0 = (.next (crowd (gs.setIfInBounds 0 a') w' sl), MemOp.ofEvents 0 a.frame.fn a.frame.place es ++ u) →
      ∃ m₁ ops μ', runT P (crowd gs w sl) 0 = (.next m₁, ops) ∧ Lt2 μ' (mu κ j D qo (N + 1) f) ∧ Inv P ty Post μ' m₁ (t ++ ops) := by
    intro u w' q' a' N' f' hcs' hlt hsz hne hch u1 u2 u3 hrun
    refine ⟨_, _, mu κ j D qo N' f', hrun, ?_, _, w', sl, κ, j, D, So, qo, { st with q := q' }, N', f', false, a', rfl, g0 a', hcs', ?_, fun _ => ?_, rfl⟩
    · unfold mu
      rcases hlt with h | ⟨rfl, h⟩
      · exact Prod.Lex.left _ _ (by omega)
      · exact Prod.Lex.right _ (by omega)
    · refine hcom.main (by simp) (others a') rfl rfl rfl rfl rfl Iff.rfl (fun _ => .inl) (Nat.le_of_eq hsz.symm) (fun x _ _ _ hx => hne x (hx i hi)) (fun _ => live_of (hne _ (by have := (hcom.cmay i hi).2.1; omega))) hch ?_ (fun x h1 hx => ?_)
      · rw [hsz, ← Array.append_assoc]
        exact tf0.comm hk1 hcom.apart (Nat.le_refl _) u1 u2 u3
      · rw [← Array.append_assoc, Deaf_still _ _ u fun op hop => ⟨(u3 op hop).1, (u3 op hop).2.1⟩]
        exact Deaf_other t (g' := 0) (by omega) _ g_of_ofEvents
    · have := (hgmf false).world (w' := w') (hne _ (by have := (hcom.cmay i hi).2.1; omega))
      exact ⟨this.mode, this.bd, this.bdm⟩
  by_cases hbuf : buf = #[]
  · subst hbuf
    by_cases hcl : (D i).stage ≤ 7
    · -- CLOSED AND EMPTY
      rw [decide_eq_true hcl] at h1
      have hrun := crowd_recv_closed (P := P) (sl := sl) (i := 0) ha hgo' h1 hpar
      rw [finishComm_recv] at hrun
      have hq : st.q (D i).c = [] := by rw [h2, hcom.shut i hi hcl]; rfl
      obtain ⟨m, hcs'⟩ := sc_pos (hR.none hq)
      refine fin _ w st.q _ N (m + 1) hcs' (.inl (by omega)) rfl (fun _ _ => rfl) (fun x hx => hcom.chan x hx) ?_ ?_ ?_ hrun
      · intro op hop; simp at hop; subst hop; simp
      · intro op hop; simp at hop; subst hop; rfl
      · intro op hop; simp at hop; subst hop; simp
    · -- EMPTY AND OPEN: IT WAITS
      rw [decide_eq_false hcl] at h1
      have hrun := crowd_waits (P := P) (sl := sl) (i := 0) ha hgo' (fun cc hcc => by
        have : cc = rcase (D i).c z := by simpa using hcc
        subst this
        exact ways_recv_none h1 hpar)
      rw [← Array.append_empty (xs := MemOp.ofEvents 0 a.frame.fn a.frame.place es)] at hrun
      refine fin #[] w st.q _ (N + 1) 0 (.park htag hd hchs ⟨s, r, h1⟩ fun w₁ r₁ => hR.rely r₁) (.inr ⟨rfl, hf⟩) rfl (fun _ _ => rfl) (fun x hx => hcom.chan x hx) (by simp) (by simp) (by simp) hrun
  · -- OUT OF THE BUFFER
    have hpos : 0 < buf.size := Nat.pos_of_ne_zero fun e => hbuf (Array.eq_empty_of_size_eq_zero e)
    have hrun := crowd_recv_buf (P := P) (sl := sl) (i := 0) ha hgo' h1 hpos hpar
    rw [finishComm_recv] at hrun
    obtain ⟨v, rest, hb⟩ : ∃ v rest, buf.toList = v :: rest := by
      cases hh : buf.toList with
      | nil => exact absurd (by simpa using hh) hbuf
      | cons v rest => exact ⟨v, rest, rfl⟩
    have hv : buf.getD 0 undef = v := by
      have : buf = (v :: rest).toArray := by rw [← hb]
      rw [this]; simp
    have hx : (buf.extract 1 buf.size).toList = rest := by
      have : buf = (v :: rest).toArray := by rw [← hb]
      rw [this]; simp
    have hq : st.q (D i).c = v :: (rest ++ (D i).ss) := by rw [h2, hb]; rfl
    rw [hv] at hrun
    obtain ⟨m, hcs'⟩ := sc_pos (hR.some v _ hq)
    have hne : ∀ x, x ≠ (D i).c → (w.setChan (D i).c 6 (buf.extract 1 buf.size) (decide ((D i).stage ≤ 7)) s (r + 1) false).heap[x]? = w.heap[x]? := fun x hx => heap_setChan_ne' _ _ _ _ _ _ _ _ hx
    refine fin _ _ (upd st.q (D i).c (rest ++ (D i).ss)) _ N (m + 1) (hcs'.rely (by
      have := rof_chan hcom hi 6 (buf.extract 1 buf.size) (decide ((D i).stage ≤ 7)) s (r + 1) false
      exact this) fun c' z' g2' _ e => ?_) (.inl (by omega)) (size_setChan _ _ _ _ _ _ _ _) hne (fun x hx => ?_) ?_ ?_ ?_ hrun
    · have := congrArg Goroutine.status e
      cases this
    · by_cases e : x = i
      · subst e
        rw [upd_same]
        refine ⟨buf.extract 1 buf.size, s, r + 1, heap_setChan_at _ _ _ _ _ _ _ _ hclt, ?_, ?_⟩
        · rw [‹(buf.extract 1 buf.size).toList = rest›]
        · rw [hq] at h3; simp at h3 ⊢; omega
      · have ec : (D x).c ≠ (D i).c := fun e' => e (hcom.cne x i hx hi e')
        rw [upd_ne _ _ ec]
        obtain ⟨buf', s', r', p1, p2⟩ := hcom.chan x hx
        exact ⟨buf', s', r', (hne _ ec).trans p1, p2⟩
    · intro op hop; simp at hop; rcases hop with rfl | rfl <;> simp
    · intro op hop; simp at hop; rcases hop with rfl | rfl <;> rfl
    · intro op hop; simp at hop; rcases hop with rfl | rfl <;> simp
end

end Go.Proofs.Ytiodikflmijhkaa.Farm
/- The farm: the starter hears that all have done; its every step; the run from its beginning to its end, on every tape. No program is named here. -/
set_option linter.unusedSectionVars false
set_option linter.unusedVariables false
namespace Go.Proofs.Ytiodikflmijhkaa.Farm
open Go.Conc Go.ConcN
open Go.ConcR (KK wgBlock WgAt stA smA rd wr mk Payload Aside2 DC0 Bk g_of_ofEvents loc_of_ofEvent ofEvent_loc_mark again_blocked bk_of_mute ofEvent_cell ofEvent_mk)
variable [Payload]

section
variable {P : Program} {ty : TypeId} {Post : MSt → Goroutine → World → Prop} {κ j : Nat} {gs : Array Goroutine} {w w' : World} {sl : Option (Nat × Nat)} {t : Trace} {D : Nat → KD} {So : Nat → Nat → Prop} {qo : Nat → Nat} {st st' : MSt} {N N' f f' : Nat} {b b' : Bool} {a a' : Goroutine}

theorem KS.quits {wg : Nat} {d : KD} {g : Goroutine} (h : KS P ty wg d g w) (hs : d.stage = 1) : QuitsD P d.fuel d.deaf g := by
  cases h with
  | scr _ _ => simp only at hs; omega
  | lib _ _ _ h => exact h.quits hs

set_option maxHeartbeats 1600000 in
/-- It hears that all have done. -/
theorem acqStep (ha : gs[0]? = some a) (hcom : Com P ty κ j gs w t D So qo st) (hgm : GM ty st j D b w) {g' : Goroutine} {may zone : Nat → Prop} (htag : st.tag = .fin) (hd : st.d = 0) (hgo : stepG P true a w = .go g' w #[mk (.acquire (stA st.wg))])
    (hz : ∀ x, st.zone x → x < w.heap.size → zone x) (hm : ∀ x, may x → ¬ zone x ∧ ¬ st.grp x) (hK : Sc P ty Post N { st with tag := .law, may := may, zone := zone } g' w) :
    ∃ m₁ ops μ', runT P (crowd gs w sl) 0 = (.next m₁, ops) ∧ Lt2 μ' (mu κ j D qo (N + 1) f) ∧ Inv P ty Post μ' m₁ (t ++ ops) := by
  have hl : st.tag ≠ .law := by rw [htag]; simp
  have hk1 := hcom.k1
  obtain ⟨m, hcs'⟩ := sc_pos hK
  obtain ⟨⟨sv, mv, hwg, hmode⟩, _, _⟩ := hgm
  rw [htag] at hmode
  obtain ⟨hq, rfl, rfl⟩ := hmode.fin_inv trivial
  have hst1 : ∀ i, i < j → (D i).stage = 1 := fun i hi => by have := hq i hi; simp only [D7] at this; omega
  have hrun := runT_crowd_go (P := P) (sl := sl) (i := 0) ha (by simpa using hgo)
  have eops : MemOp.ofEvents 0 a.frame.fn a.frame.place #[mk (.acquire (stA st.wg))] = #[{ g := 0, fn := a.frame.fn, pos := a.frame.place, act := .mark (.acquire (stA st.wg)) }] := by rw [ofEvents_eq]; simp [ofEvent_mk]
  rw [eops] at hrun
  obtain ⟨x, hx⟩ : ∃ x : MemOp, x = { g := 0, fn := a.frame.fn, pos := a.frame.place, act := .mark (.acquire (stA st.wg)) } := ⟨_, rfl⟩
  rw [← hx] at hrun
  have hmem : ∀ op ∈ #[x], op = x := fun op hop => by simpa using hop
  have u2 : ∀ op ∈ #[x], op.act.touch? = none := fun op hop => by rw [hmem op hop, hx]; rfl
  have u3 : ∀ op ∈ #[x], op.act ≠ .mark .disable ∧ op.act ≠ .mark .enable ∧ ∀ y, op.act ≠ .mark (.release y) := fun op hop => by rw [hmem op hop, hx]; exact ⟨by simp, by simp, by simp⟩
  have tf := hcom.tf.comm hk1 hcom.apart (Nat.le_refl _) (u := #[x]) (fun op hop => by rw [hmem op hop, hx]; simp) u2 u3
  have gm := gs_main (a' := g') hcom a g' w
  -- the edges
  have hq0 : (t ++ #[x])[t.size]? = some x := by simp
  have hover : ∀ i g, (t ++ #[x]).g? i = some g → κ ≤ g → g < κ + j → (t ++ #[x]).counts i → ∃ q, (t ++ #[x]).g? q = some 0 ∧ HappensBefore (t ++ #[x]) i q := by
    intro i g hg h1 h2 hc
    obtain ⟨i0, hi0, hnr, hrl⟩ := tf.gr
    obtain ⟨y, r, hy, hr0, hr⟩ := hrl (g - κ) (by omega) (by have := hst1 (g - κ) (by omega); omega)
    rw [aOf_some hl] at hy
    cases hy
    rw [show κ + (g - κ) = g by omega] at hr
    have hrq : r < t.size := by
      have h3 := lt_of_act? hr.act
      simp at h3
      rcases Nat.lt_or_ge r t.size with h4 | h4
      · exact h4
      · have h5 : r = t.size := by omega
        have h6 := hr.act
        rw [h5, act?_of hq0, hx] at h6
        simp at h6
    have hheard : (t ++ #[x]).heard t.size := ⟨0, by simp [Trace.g?, hx], by rw [deaf_old (Nat.le_refl _)]; have := hcom.tf.deaf0; rw [hd] at this; exact this⟩
    have edge : HappensBefore (t ++ #[x]) r t.size := .single (.inr ⟨.marked hrq (.inr hr.act) (by rw [act?_of hq0, hx]) (fun k h3 _ => hnr _ (aOf_some hl) k (by omega)), hr.heard, hheard⟩)
    have hle : i ≤ r := Nat.le_of_not_lt fun hlt => hr.after i hlt hg hc
    have hg0 : (t ++ #[x]).g? t.size = some 0 := by simp [Trace.g?, hx]
    rcases Nat.lt_or_ge i r with hlt | hge
    · exact ⟨t.size, hg0, .trans (.single (.inl ⟨hlt, g, hg, hr.g⟩)) edge⟩
    · obtain rfl : i = r := by omega
      exact ⟨t.size, hg0, edge⟩
  have dstill : ∀ g, Deaf (t ++ #[x]) g = Deaf t g := fun g => Deaf_still t g _ fun op hop => ⟨(u3 op hop).1, (u3 op hop).2.1⟩
  obtain ⟨So', hSo'⟩ : ∃ So' : Nat → Nat → Prop, So' = fun k => if k < κ then So k else (D (k - κ)).S := ⟨_, rfl⟩
  have so1 : ∀ k, k < κ → So' k = So k := fun k hk => by rw [hSo']; simp [hk]
  have so2 : ∀ k, κ ≤ k → So' k = (D (k - κ)).S := fun k hk => by rw [hSo']; simp [Nat.not_lt.2 hk]
  obtain ⟨qo', hqo'⟩ : ∃ qo' : Nat → Nat, qo' = fun k => if k < κ then qo k else (D (k - κ)).fuel := ⟨_, rfl⟩
  refine ⟨_, _, mu (κ + j) 0 D qo' N (m + 1), hrun, ?_, _, w, sl, κ + j, 0, D, So', qo', { st with tag := .law, may := may, zone := zone }, N, m + 1, false, g', rfl, get_map_set_same _ _ _ (by rw [hcom.size]; omega), hcs', ?_, fun h => absurd rfl h, rfl⟩
  · refine Prod.Lex.left _ _ ?_
    simp only [sumTo]
    omega
  · refine ⟨by simp [hcom.size], by omega, hcom.gsz, by omega, fun i hi => by omega, fun y h1 hy => ?_, ?_, fun i hi => by omega, fun k hk y hy => ?_, fun i hi => by omega, fun i hi => by omega, fun i _ hi => by omega, fun i hi => by omega, fun i hi => by omega, fun i _ hi => by omega, fun i hi => by omega, fun _ h _ => absurd rfl h, fun _ => rfl, fun h => absurd rfl h, fun y hy => (hm y hy).2, hcom.glt, fun h => absurd rfl h, fun h => absurd rfl h⟩
    · rcases Nat.lt_or_ge y κ with hlt | hge
      · obtain ⟨g, hg, hqq⟩ := hcom.old y h1 hlt
        refine ⟨g, (gm y h1).trans hg, ?_⟩
        rw [dstill, hqo']
        simpa [hlt] using hqq
      · obtain ⟨g, hg, hk⟩ := hcom.wk (y - κ) (by omega)
        rw [show κ + (y - κ) = y by omega] at hg
        refine ⟨g, (gm y h1).trans hg, ?_⟩
        have hqq := hk.quits (hst1 (y - κ) (by omega))
        rw [dstill, hqo']
        have hdf := hcom.tf.deafW (y - κ) (by omega)
        rw [show κ + (y - κ) = y by omega] at hdf
        rw [hdf]
        simpa [Nat.not_lt.2 hge] using hqq
    · have e0 : aOf { st with tag := .law, may := may, zone := zone } = none := rfl
      rw [e0]
      refine ⟨?_, tf.low, ?_, fun i hi => by omega, ⟨(t ++ #[x]).size, Nat.le_refl _, fun _ h => (by cases h), fun i hi => by omega⟩, fun i g hg h1 h2 hc => ?_⟩
      · have := tf.ct
        refine CT.congr this fun k k1 kj l => ?_
        constructor
        · rintro ⟨y, rfl, ⟨h1, h2⟩ | ⟨h1, h2, h3⟩⟩
          · rcases Nat.lt_or_ge k κ with hlt | hge
            · rw [so1 k hlt] at h2; exact ⟨y, rfl, .inl ⟨hlt, h2⟩⟩
            · rw [so2 k hge] at h2; exact ⟨y, rfl, .inr ⟨hge, h1, h2⟩⟩
          · omega
        · rintro ⟨y, rfl, ⟨h1, h2⟩ | ⟨h1, h2, h3⟩⟩
          · exact ⟨y, rfl, .inl ⟨by omega, by rw [so1 k h1]; exact h2⟩⟩
          · exact ⟨y, rfl, .inl ⟨h2, by rw [so2 k h1]; exact h3⟩⟩
      · exact tf.deaf0
      · rcases Nat.lt_or_ge g κ with hlt | hge
        · exact tf.over i g hg h1 hlt hc
        · exact hover i g hg hge h2 hc
    · rcases Nat.lt_or_ge k κ with hlt | hge
      · rw [so1 k hlt] at hy
        obtain ⟨a1, a2, a3, a4⟩ := hcom.so k hlt y hy
        exact ⟨hz y a1 a4, fun h => (hm y h).1 (hz y a1 a4), a3, a4⟩
      · rw [so2 k hge] at hy
        obtain ⟨a1, a2, a3, a4, _⟩ := hcom.sw (k - κ) (by omega) y hy
        exact ⟨hz y a1 a4, fun h => (hm y h).1 (hz y a1 a4), a3, a4⟩

theorem bk_dis' {wg : Nat} : ∀ e ∈ #[mk .disable], Bk wg e := by intro e he; simp at he; subst he; exact .inl rfl
theorem bk_en' {wg : Nat} : ∀ e ∈ #[mk .enable], Bk wg e := by intro e he; simp at he; subst he; exact .inr (.inl rfl)
theorem bk_rd' {wg : Nat} : ∀ e ∈ #[rd (stA wg)], Bk wg e := by intro e he; simp at he; subst he; exact bk_cell _ _ rfl
theorem bk_rw' {wg : Nat} : ∀ e ∈ #[rd (stA wg), wr (stA wg)], Bk wg e := by intro e he; simp at he; rcases he with rfl | rfl <;> exact bk_cell _ _ rfl
theorem bk_sem' {wg : Nat} : ∀ e ∈ semEvents (smA wg), Bk wg e := by
  intro e he
  simp [semEvents] at he
  rcases he with rfl | rfl | rfl | rfl
  · exact .inl rfl
  · exact bk_cell _ _ rfl
  · exact bk_cell _ _ rfl
  · exact .inr (.inl rfl)

/-- The run ends well from here. -/
def Ends (P : Program) (Fin : Value → World → Prop) (gs : Array Goroutine) (w : World) (sl : Option (Nat × Nat)) (t : Trace) : Prop :=
  ∃ M last o w' t', runNT P (M + 1) (crowd gs w sl) t = (.ended o w', t') ∧ runN P M (crowd gs w sl) = .next last ∧ step P last = .ended o w' ∧ Good P Fin last o w' t'
/-- The starter stands at g in world w (whatever the count of draws), all others only leave: whatever they are, the run ends well. -/
def Done (P : Program) (ty : TypeId) (Fin : Value → World → Prop) (st : MSt) (g : Goroutine) (w : World) : Prop :=
  ∀ (d : Nat) (gs : Array Goroutine) (sl : Option (Nat × Nat)) (κ j : Nat) (D : Nat → KD) (So : Nat → Nat → Prop) (qo : Nat → Nat) (t : Trace), gs[0]? = some g → Com P ty κ j gs (w.at d) t D So qo st → Ends P Fin gs (w.at d) sl t
theorem Done.at {Fin : Value → World → Prop} {st : MSt} {g : Goroutine} {w : World} {d : Nat} (h : Done P ty Fin st g (w.at d)) : Done P ty Fin st g w := fun d' gs sl κ j D So qo t h0 hc => h d' gs sl κ j D So qo t h0 hc

set_option maxHeartbeats 3200000 in
/-- EVERY STEP OF THE STARTER's. -/
theorem stepMain (ha : gs[0]? = some a) (hcs : CS P ty Post st N f b a w) (hcom : Com P ty κ j gs w t D So qo st) (hgm : st.tag ≠ .law → GM ty st j D b w) (hrun : a.status = .running) :
    (st.tag = .law ∧ st.d = 0 ∧ Post st a w) ∨
    (∃ m₁ ops μ', runT P (crowd gs w sl) 0 = (.next m₁, ops) ∧ Lt2 μ' (mu κ j D qo N f) ∧ Inv P ty Post μ' m₁ (t ++ ops)) := by
  cases hcs with
  | park _ _ _ _ _ => cases hrun
  | sem _ _ _ => cases hrun
  | run h =>
    rename_i N m
    rcases Goes.cases h with hstop | ⟨m', rfl, hstep⟩
    · obtain ⟨_, hst⟩ := hstop w (ROf.refl ty st w)
      cases hst with
      | new o g' htag hd hgo hK =>
        have hl : st.tag ≠ .law := by rw [htag]; simp
        obtain ⟨m₂, hcs'⟩ := sc_pos hK
        have hsame : ∀ x, x < w.heap.size → (w.alloc o).heap[x]? = w.heap[x]? := fun x hx => heap_alloc_ne _ _ hx
        have sz : (w.alloc o).heap.size = w.heap.size + 1 := by simp
        have hw := hsame st.wg (hcom.grp hl).2
        refine .inr (mainGo (b' := false) ha hcom hgo hcs' (hcom.main (by simp) (gs_main hcom _ _ _) rfl rfl rfl rfl rfl Iff.rfl (fun x hx => hx.imp id fun e => ⟨e, by rw [sz]; omega⟩) (by rw [sz]; omega) (fun x hx _ _ _ => hsame x hx) (fun _ => live_of hw)
          (show ∀ x, x < j → ChanAt (w.alloc o) (st.q (D x).c) (D x) from chan_same hcom fun x hx => hsame _ (hcom.clt hx)) (tf_main hcom (by rw [sz]; omega) (by simp)) fun x h1 hx => ?_) (fun _ => ?_) (.inl (Nat.lt_succ_self _)))
        · exact Deaf_other t (g' := 0) (by omega) _ g_of_ofEvents
        · have := (hgm hl).world (w' := w.alloc o) hw
          exact ⟨this.mode, this.bd, this.bdm⟩
      | newc o g' htag hd hgo hK => exact .inr (newcStep ha hcom (hgm (by rw [htag]; simp)) htag hgo hK)
      | wg g' Z may htag hd hgo hM hm hK => exact .inr (wgStep ha hcom htag trivial hgo hM hm hK)
      | dis g' htag hd hgo hK =>
        have hl : st.tag ≠ .law := by rw [htag]; simp
        obtain ⟨m₂, hcs'⟩ := sc_pos hK
        have hg := hgm hl
        exact .inr (bookMain (tag' := st.tag) (bd' := st.bd) (b' := false) ha hcom hl hgo (.refl st.wg w) bk_dis' hl (by rw [hd]; rfl) hcs' ⟨hg.mode, hg.bd, hg.bdm⟩ (.inl (Nat.lt_succ_self _)))
      | en g' htag hd hgo hK =>
        have hl : st.tag ≠ .law := by rcases htag with h | h <;> rw [h] <;> simp
        obtain ⟨m₂, hcs'⟩ := sc_pos hK
        have hg := hgm hl
        exact .inr (bookMain (tag' := st.tag) (bd' := st.bd) (b' := false) ha hcom hl hgo (.refl st.wg w) bk_en' hl (by rw [hd]; rfl) hcs' ⟨hg.mode, hg.bd, hg.bdm⟩ (.inl (Nat.lt_succ_self _)))
      | add htag hd hbd hall =>
        have hl : st.tag ≠ .law := by rw [htag]; simp
        obtain ⟨⟨sv, mv, hwg, hmode⟩, hb1, hb2⟩ := hgm hl
        have htg : tgOf st.tag false = .kd := by rw [htag]; rfl
        rw [htg] at hmode
        obtain ⟨ho, rfl, rfl, _⟩ := hmode.open_inv trivial
        have hVj := Vc_le j (D7 D)
        have hj1 := hcom.j1
        obtain ⟨g', hgo, hK⟩ := hall (Vc j (D7 D)) (by omega) (by simpa [pend] using hwg)
        obtain ⟨m₂, hcs'⟩ := sc_pos hK
        have hbf := hb1 false htag
        refine .inr (bookMain (tag' := .opn true) (d' := st.d) (bd' := st.bd + 1) (b' := false) ha hcom hl hgo (aside_setCell w (stA st.wg) _) bk_rw' (by simp) rfl hcs' ⟨⟨_, 0, hwg.setSt _, ?_⟩, fun p hp => ?_, trivial⟩ (.inl (Nat.lt_succ_self _)))
        · have := ConcN.Mode.opn (j := j) (D := D7 D) (tag := CTag.sp 0 3) trivial ho (by simp)
          simpa [pend, tgOf] using this
        · cases hp
          simp at hbf ⊢
          exact hbf
      | go g' child S c Nw vs may htag hd hgo hcr hm hS hc hcm hcc hcw hvs hNw hgs hwk hK => exact .inr (goStep ha hcom (hgm (by rw [htag]; simp)) htag hd hgo hm hS hc hcm hcc hcw hvs hNw hgs hwk hK)
      | recv c z g₂ htag hd hch hR => exact .inr (recvStep ha hcom (hgm (by rw [htag]; simp)) htag hd hch hR (by omega))
      | w1 htag hd hall =>
        have hl : st.tag ≠ .law := by rw [htag]; simp
        obtain ⟨⟨sv, mv, hwg, hmode⟩, hb1, hb2⟩ := hgm hl
        have htg : tgOf st.tag false = .kd := by rw [htag]; rfl
        rw [htg] at hmode
        obtain ⟨ho, rfl, rfl, _⟩ := hmode.open_inv trivial
        have hbf := hb1 false htag
        simp at hbf
        obtain ⟨g', hgo, h0, hne⟩ := hall (Vc j (D7 D)) hbf (by simpa [pend] using hwg)
        by_cases hv : Vc j (D7 D) = 0
        · obtain ⟨m₂, hcs'⟩ := sc_pos (h0 hv)
          refine .inr (bookMain (tag' := .fin) (d' := st.d) (bd' := st.bd) (b' := false) ha hcom hl hgo (.refl st.wg w) bk_rd' (by simp) rfl hcs' ⟨⟨0, 0, ?_, .fin trivial (allQuit_of ho hv)⟩, fun p hp => (by cases hp), trivial⟩ (.inl (Nat.lt_succ_self _)))
          simpa [pend, hv] using hwg
        · obtain ⟨m₂, hcs'⟩ := sc_pos (hne hv)
          refine .inr (bookMain (tag' := .w2 (Vc j (D7 D))) (d' := st.d) (bd' := st.bd) (b' := false) ha hcom hl hgo (.refl st.wg w) bk_rd' (by simp) rfl hcs' ⟨⟨_, 0, hwg, ?_⟩, fun p hp => (by cases hp), trivial⟩ (.inl (Nat.lt_succ_self _)))
          have := ConcN.Mode.opn (j := j) (D := D7 D) (tag := CTag.w2 (Vc j (D7 D))) trivial ho (fun vs e => by cases e; omega)
          simpa [pend, tgOf] using this
      | w2 vs htag hd hall =>
        have hl : st.tag ≠ .law := by rw [htag]; simp
        obtain ⟨⟨sv, mv, hwg, hmode⟩, hb1, hb2⟩ := hgm hl
        have htg : tgOf st.tag false = .w2 vs := by rw [htag]; rfl
        rw [htg] at hmode
        obtain ⟨ho, rfl, rfl, hvs⟩ := hmode.open_inv trivial
        obtain ⟨h1, h2⟩ := hvs vs rfl
        obtain ⟨hhit, hmiss⟩ := hall (Vc j (D7 D)) h1 (by simpa [pend] using hwg)
        by_cases hv : Vc j (D7 D) = vs
        · obtain ⟨g', hgo, hK⟩ := hhit hv
          obtain ⟨m₂, hcs'⟩ := sc_pos hK
          exact .inr (bookMain (tag' := .w3) (d' := st.d) (bd' := st.bd) (b' := false) ha hcom hl hgo (aside_setCell w (stA st.wg) _) bk_rw' (by simp) rfl hcs' ⟨⟨_, 0, hwg.setSt _, .reg trivial ho (by omega)⟩, fun p hp => (by cases hp), trivial⟩ (.inl (Nat.lt_succ_self _)))
        · obtain ⟨g', hgo, hK⟩ := hmiss (by omega)
          obtain ⟨m₂, hcs'⟩ := sc_pos hK
          have hVj := Vc_le j (D7 D)
          have hj1 := hcom.j1
          refine .inr (bookMain (tag' := .opn false) (d' := st.d) (bd' := vs - 1) (b' := false) ha hcom hl hgo (.refl st.wg w) bk_rd' (by simp) rfl hcs' ⟨⟨_, 0, hwg, ?_⟩, fun p hp => ?_, ?_⟩ (.inl (Nat.lt_succ_self _)))
          · have := ConcN.Mode.opn (j := j) (D := D7 D) (tag := CTag.kd) trivial ho (by simp)
            simpa [pend, tgOf] using this
          · cases hp; simp; omega
          · trivial
      | w3 htag hd hsem =>
        have hl : st.tag ≠ .law := by rw [htag]; simp
        obtain ⟨⟨sv, mv, hwg, hmode⟩, hb1, hb2⟩ := hgm hl
        have htg : tgOf st.tag false = .w3 := by rw [htag]; rfl
        rw [htg] at hmode
        have block : (∃ s, WgAt ty st.wg w s 0) → ConcN.Mode j (D7 D) .blk sv mv → _ := fun hs hm' =>
          (bookMain (tag' := st.tag) (d' := st.d) (bd' := st.bd) (N := N + 1) (f := m + 1) (sl := sl) (b' := true) ha hcom hl (hsem.wait w (ROf.refl ty st w) hs) (.refl st.wg w) (by simp) hl rfl (.sem htag hd fun w₁ r₁ => hsem.rely r₁) ⟨⟨sv, mv, hwg, by show ConcN.Mode j (D7 D) (tgOf st.tag true) sv mv; rw [htag]; exact hm'⟩, hb1, hb2⟩ (.inr ⟨rfl, by omega⟩) :
            ∃ m₁ ops μ', runT P (crowd gs w sl) 0 = (.next m₁, ops) ∧ Lt2 μ' (mu κ j D qo (N + 1) (m + 1)) ∧ Inv P ty Post μ' m₁ (t ++ ops))
        cases hmode with
        | opn h1 _ _ => exact h1.elim
        | reg h1 h2 h3 => exact .inr (block ⟨_, hwg⟩ (.reg trivial h2 h3))
        | last L h1 h2 h3 h4 => exact .inr (block ⟨_, hwg⟩ (.last L trivial h2 h3 h4))
        | sema h2 =>
          obtain ⟨g', hgo, hK⟩ := hsem.pass w (ROf.refl ty st w) hwg
          obtain ⟨m₂, hcs'⟩ := sc_pos hK
          exact .inr (bookMain (tag' := .fin) (d' := st.d) (bd' := st.bd) (b' := false) ha hcom hl hgo (aside_setCell w (smA st.wg) _) bk_sem' (by simp) (by rw [hd]; simp [deafBehind, semEvents]) hcs' ⟨⟨0, 0, hwg.setSm 0, .fin trivial h2⟩, fun p hp => (by cases hp), trivial⟩ (.inl (Nat.lt_succ_self _)))
        | fin h1 _ => exact h1.elim
      | w4 htag hd hx =>
        have hl : st.tag ≠ .law := by rw [htag]; simp
        obtain ⟨⟨sv, mv, hwg, hmode⟩, hb1, hb2⟩ := hgm hl
        have htg : tgOf st.tag false = .ke := by rw [htag]; rfl
        rw [htg] at hmode
        obtain ⟨hq, rfl, rfl⟩ := hmode.fin_inv trivial
        obtain ⟨g', hgo, hK⟩ := hx hwg
        obtain ⟨m₂, hcs'⟩ := sc_pos hK
        exact .inr (bookMain (tag' := st.tag) (d' := st.d) (bd' := st.bd) (b' := false) ha hcom hl hgo (.refl st.wg w) bk_rd' hl rfl hcs' ⟨⟨0, 0, hwg, by show ConcN.Mode j (D7 D) (tgOf st.tag false) 0 0; rw [htg]; exact hmode⟩, hb1, hb2⟩ (.inl (Nat.lt_succ_self _)))
      | acq g' may zone htag hd hgo hz hm hK => exact .inr (acqStep ha hcom (hgm (by rw [htag]; simp)) htag hd hgo hz hm hK)
      | cont htag hd hp => exact .inl ⟨htag, hd, hp⟩
    · obtain ⟨g', w', es, hgo, hD, hg'⟩ := hstep w (ROf.refl ty st w)
      exact .inr (idleMain ha hcom hgm hgo hD (.run hg') (by omega))
end

end Go.Proofs.Ytiodikflmijhkaa.Farm
/- The farm: FROM THE BEGINNING TO THE END, ON EVERY TAPE. No program is named here. -/
set_option linter.unusedSectionVars false
set_option linter.unusedVariables false
namespace Go.Proofs.Ytiodikflmijhkaa.Farm
open Go.Conc Go.ConcN
open Go.ConcR (KK wgBlock WgAt stA smA rd wr mk Payload Aside2 DC0 Bk g_of_ofEvents)
variable [Payload]

section
variable {P : Program} {ty : TypeId} {Post : MSt → Goroutine → World → Prop} {κ j : Nat} {gs : Array Goroutine} {w w' : World} {sl : Option (Nat × Nat)} {t : Trace} {D : Nat → KD} {So : Nat → Nat → Prop} {qo : Nat → Nat} {st : MSt} {N f : Nat} {b : Bool} {a : Goroutine}

/-- NO DEADLOCK. -/
theorem someone_runs (ha : gs[0]? = some a) (hcs : CS P ty Post st N f b a w) (hcom : Com P ty κ j gs w t D So qo st) (hgm : st.tag ≠ .law → GM ty st j D b w) : ∃ (i : Nat) (g : Goroutine), gs[i]? = some g ∧ g.status = .running := by
  cases hcs with
  | run h => exact ⟨0, a, ha, Goes.running (fun _ _ x => x.1) w (ROf.refl ty st w) h⟩
  | park h1 h2 h3 h4 h5 =>
    have hl : st.tag ≠ .law := by rw [h1]; simp
    obtain ⟨i, hi, rfl⟩ := hcom.chs _ hl h3
    obtain ⟨buf, s, r, c1, _⟩ := hcom.chan i hi
    obtain ⟨s', r', c2⟩ := h4
    rw [c1] at c2
    simp at c2
    obtain ⟨g, hg, hk⟩ := hcom.wk i hi
    exact ⟨κ + i, g, hg, hk.running_of (by omega)⟩
  | sem h1 h2 h3 =>
    have hl : st.tag ≠ .law := by rw [h1]; simp
    obtain ⟨⟨sv, mv, _, hmode⟩, _, _⟩ := hgm hl
    have htg : tgOf st.tag true = .blk := by rw [h1]; rfl
    rw [htg] at hmode
    cases hmode with
    | opn h1 _ _ => exact h1.elim
    | reg _ _ h3 =>
      obtain ⟨i, hi, h5⟩ := exists_counted h3
      obtain ⟨g, hg, hk⟩ := hcom.wk i hi
      exact ⟨κ + i, g, hg, hk.running_of (by simp only [D7] at h5; omega)⟩
    | last L _ h2 h3 _ =>
      obtain ⟨g, hg, hk⟩ := hcom.wk L h2
      exact ⟨κ + L, g, hg, hk.running_of (by simp only [D7] at h3; omega)⟩
    | fin h1 _ => exact h1.elim

theorem all_awake (ha : gs[0]? = some a) (hcs : CS P ty Post st N f b a w) (hcom : Com P ty κ j gs w t D So qo st) : ∀ g ∈ gs, awake g := by
  intro g hg
  obtain ⟨i, hi⟩ := Array.mem_iff_getElem?.1 hg
  apply awake_of
  rcases Nat.eq_zero_or_pos i with rfl | hp
  · rw [ha] at hi; cases hi
    rcases hcs.status with ⟨h, _⟩ | ⟨h, _⟩
    · exact .inl h
    · exact .inr (.inl h)
  · have hlt := (Array.getElem?_eq_some_iff.1 hi).1
    rw [hcom.size] at hlt
    rcases Nat.lt_or_ge i κ with h1 | h1
    · obtain ⟨y, hy, hq⟩ := hcom.old i hp h1
      rw [hi] at hy; cases hy
      exact hq.status.elim .inl fun x => .inr (.inr x)
    · obtain ⟨y, hy, hk⟩ := hcom.wk (i - κ) (by omega)
      rw [show κ + (i - κ) = i by omega, hi] at hy; cases hy
      exact hk.status.elim .inl fun x => .inr (.inr x)

/-- A LEAVER's STEP. -/
theorem stepOld (ha : gs[0]? = some a) (hcs : CS P ty Post st N f b a w) (hcom : Com P ty κ j gs w t D So qo st) (hgm : st.tag ≠ .law → GM ty st j D b w) {i : Nat} (h1 : 1 ≤ i) (hi : i < κ) {g : Goroutine} (hg : gs[i]? = some g) (hrun : g.status = .running) :
    ∃ m₁ ops μ', runT P (crowd gs w sl) i = (.next m₁, ops) ∧ Lt2 μ' (mu κ j D qo N f) ∧ Inv P ty Post μ' m₁ (t ++ ops) := by
  obtain ⟨y, hy, hq⟩ := hcom.old i h1 hi
  rw [hg] at hy; cases hy
  cases hqi : qo i with
  | zero => rw [hqi] at hq; rw [hq.1] at hrun; cases hrun
  | succ k =>
    rw [hqi] at hq
    rcases hq with ⟨hf, _⟩ | ⟨_, g', es, hm, hstp, hq'⟩
    · rw [hf] at hrun; cases hrun
    have hr := runT_crowd_go (P := P) (sl := sl) (i := i) hg (by rw [show (i == 0) = false by simp; omega]; exact hstp w)
    obtain ⟨f', b', hcs', hf', hb', _⟩ := hcs.woken (w' := w) (ROf.refl ty st w) (fun _ _ _ _ _ => rfl) g g'
    have hsum := sumTo_upd qo k id hi
    simp only [id] at hsum
    have h8 : sumTo κ (upd qo i k) + qo i = sumTo κ qo + k := hsum
    refine ⟨_, _, mu κ j D (upd qo i k) N f', hr, ?_, _, w, sl, κ, j, D, So, upd qo i k, st, N, f', b', Conc.woken P g g' w a, rfl, ?_, hcs', hcom.slip h1 hi hm hq' (by simp) (get_map_set_same _ _ _ (by rw [hcom.size]; omega)) (fun z hz e => ?_), fun hl => ?_, rfl⟩
    · unfold mu
      refine Prod.Lex.right _ ?_
      omega
    · rw [get_map_set _ _ _ _ (by omega), ha]; rfl
    · rw [get_map_set _ _ _ _ (by omega)]
      cases hgz : gs[z]? with
      | none => rfl
      | some v =>
        rcases Nat.lt_or_ge z κ with hlt' | hge
        · obtain ⟨x, hx, hqx⟩ := hcom.old z hz hlt'
          rw [hgz] at hx; cases hx
          simp [woken_quitsD hqx]
        · have hzj : z - κ < j := by have := (Array.getElem?_eq_some_iff.1 hgz).1; rw [hcom.size] at this; omega
          obtain ⟨x, hx, hks⟩ := hcom.wk (z - κ) hzj
          rw [show κ + (z - κ) = z by omega, hgz] at hx; cases hx
          simp [hks.woken]
    · obtain ⟨⟨s, m, p1, p2⟩, p3, p4⟩ := hgm hl
      exact ⟨⟨s, m, p1, p2.retag (tg_retag _ hb')⟩, p3, p4⟩

/-- A step of the machine: the run goes on within the invariant; or the starter stands, alone but for leavers, where it was to come to. -/
theorem farm_step : ∀ μ m t, Inv P ty Post μ m t →
    (∃ (gs : Array Goroutine) (w : World) (sl : Option (Nat × Nat)) (κ j : Nat) (D : Nat → KD) (So : Nat → Nat → Prop) (qo : Nat → Nat) (st : MSt) (a : Goroutine) (sl' : Option (Nat × Nat)) (d : Nat), m = crowd gs w sl ∧ gs[0]? = some a ∧ Com P ty κ j gs (w.at d) t D So qo st ∧ st.tag = .law ∧ st.d = 0 ∧ Post st a (w.at d) ∧ stepT P m = runT P (crowd gs (w.at d) sl') 0) ∨
    (∃ m' ops μ', stepT P m = (.next m', ops) ∧ Lt2 μ' μ ∧ Inv P ty Post μ' m' (t ++ ops)) := by
  rintro μ m t ⟨gs, w, sl, κ, j, D, So, qo, st, N, f, b, a, rfl, ha, hcs, hcom, hgm, rfl⟩
  obtain ⟨i, g, d, sl', hg, hrun, hstep⟩ := crowd_pick (P := P) (w := w) (sl := sl) (all_awake ha hcs hcom) (someone_runs ha hcs hcom hgm)
  have hcs' := hcs.rely (ROf.at ty st w d) (fun _ _ _ _ _ => rfl)
  have hcom' := hcom.at d
  have hgm' : st.tag ≠ .law → GM ty st j D b (w.at d) := fun hl => (hgm hl).world rfl
  rcases Nat.eq_zero_or_pos i with rfl | hp
  · rw [ha] at hg; cases hg
    rcases stepMain (sl := sl') ha hcs' hcom' hgm' hrun with ⟨h1, h2, h3⟩ | h
    · exact .inl ⟨gs, w, sl, κ, j, D, So, qo, st, a, sl', d, rfl, ha, hcom', h1, h2, h3, hstep⟩
    · rw [hstep]; exact .inr h
  · rw [hstep]
    have hlt := (Array.getElem?_eq_some_iff.1 hg).1
    rw [hcom.size] at hlt
    rcases Nat.lt_or_ge i κ with h1 | h1
    · exact .inr (stepOld ha hcs' hcom' hgm' hp h1 hg hrun)
    · have e : κ + (i - κ) = i := by omega
      have := stepWorker (sl := sl') ha hcs' hcom' hgm' (i := i - κ) (by omega) (by rw [e]; exact hg) hrun
      rw [e] at this
      exact .inr this
theorem ends_next {Fin : Value → World → Prop} {m m' : Machine} {ops : Trace} (hs : stepT P m = (.next m', ops))
    (h : ∃ M last o w' t', runNT P (M + 1) m' (t ++ ops) = (.ended o w', t') ∧ runN P M m' = .next last ∧ step P last = .ended o w' ∧ Good P Fin last o w' t') :
    ∃ M last o w' t', runNT P (M + 1) m t = (.ended o w', t') ∧ runN P M m = .next last ∧ step P last = .ended o w' ∧ Good P Fin last o w' t' := by
  obtain ⟨M, last, o, w', t', h1, h2, h3, h4⟩ := h
  exact ⟨M + 1, last, o, w', t', by rw [runNT_succ_next hs]; exact h1, by rw [runN_succ_next hs]; exact h2, h3, h4⟩

/-- ████ FROM THE INVARIANT TO THE END, ON EVERY TAPE. ████ -/
theorem farm_ends {Fin : Value → World → Prop} (hZ : ∀ st g w, Post st g w → st.tag = .law → st.d = 0 → Done P ty Fin st g w) :
    ∀ μ m t, Inv P ty Post μ m t → ∃ M last o w' t', runNT P (M + 1) m t = (.ended o w', t') ∧ runN P M m = .next last ∧ step P last = .ended o w' ∧ Good P Fin last o w' t' := by
  intro μ
  have wf : WellFounded Lt2 := (Prod.lex Nat.lt_wfRel Nat.lt_wfRel).wf
  induction μ using wf.induction with
  | _ μ ih =>
    intro m t hI
    rcases farm_step μ m t hI with ⟨gs, w, sl, κ, j, D, So, qo, st, a, sl', d, rfl, h0, hc, h1, h2, h3, _⟩ | ⟨m', ops, μ', hs, hr, hI'⟩
    · have := (hZ st a _ h3 h1 h2).at w.drawn gs sl κ j D So qo t h0 (hc.at w.drawn)
      exact this
    · exact ends_next hs (ih μ' hr m' _ hI')

/-- A PHASE: from where the starter has a script, alone but for leavers. -/
theorem done_of_sc {Fin : Value → World → Prop} {g : Goroutine} (hZ : ∀ st g w, Post st g w → st.tag = .law → st.d = 0 → Done P ty Fin st g w) (htag : st.tag = .law) (h : Sc P ty Post N st g w) : Done P ty Fin st g w := by
  intro d gs sl κ j D So qo t h0 hc
  obtain ⟨m, hcs⟩ := sc_pos (h.rely (ROf.at ty st w d))
  exact farm_ends hZ _ _ _ ⟨gs, w.at d, sl, κ, j, D, So, qo, st, N, m + 1, false, g, rfl, h0, hcs, hc, fun hl => absurd htag hl, rfl⟩

/-- The starter's own walk, alone but for leavers. -/
theorem done_of_goes {Fin : Value → World → Prop} {Stop : Goroutine → World → Prop} {n : Nat} {g : Goroutine} (htag : st.tag = .law) (hd : st.d = 0) (hrun : ∀ g w, Stop g w → g.status = .running) (h : Goes P true (ROf ty st) (DM st) Stop n g w)
    (hS : ∀ g w, Stop g w → Done P ty Fin st g w) : Done P ty Fin st g w :=
  done_of_sc (Post := fun st' g w => st' = st ∧ Stop g w) (N := 1) (fun st' g w ⟨e, hs⟩ _ _ => by subst e; exact hS g w hs) htag ⟨n, goes_mono (fun g w hs => ⟨hrun g w hs, .cont htag hd ⟨rfl, hs⟩⟩) h⟩

theorem runT_ended' {gs : Array Goroutine} {w w' : World} {sl : Option (Nat × Nat)} {g : Goroutine} {o : Outcome} {es : Array Event} (hi : gs[0]? = some g) (h : stepG P true g w = .ended o w' es) :
    runT P (crowd gs w sl) 0 = (.ended o w', MemOp.ofEvents 0 g.frame.fn g.frame.place es) := runT_many_ended (P := P) (sl := sl) (i := 0) hi (show stepG P ((0 : Nat) == 0) g w = _ from h)

/-- The starter's step that ends the run. -/
def FinAt (P : Program) (Fin : Value → World → Prop) (st : MSt) (g : Goroutine) (w : World) : Prop := g.status = .running ∧ ∀ d, ∃ v es, stepG P true g (w.at d) = .ended (.done v) (w.at d) es ∧ (∀ e ∈ es, EvM st w.heap.size e) ∧ Fin v (w.at d)

theorem good_of_end {Fin : Value → World → Prop} (htag : st.tag = .law) (ha : gs[0]? = some a) (hcom : Com P ty κ j gs w t D So qo st) {v : Value} {es : Array Event} (hev : ∀ e ∈ es, EvM st w.heap.size e) (hp : Fin v w) (sl₀ : Option (Nat × Nat)) (w₀ : World) :
    Good P Fin (crowd gs w₀ sl₀) (.done v) w (t ++ MemOp.ofEvents 0 a.frame.fn a.frame.place es) := by
  have tf := tf_main (w' := w) (fn := a.frame.fn) (pos := a.frame.place) hcom (Nat.le_refl _) hev
  have hj := hcom.lawj htag
  subst hj
  refine ⟨v, rfl, hp, tf.ct.nr, fun i g hg hne hc => ?_, ⟨fun x hx => ?_, rfl⟩, fun i x hx hi => ?_⟩
  · have hgl : g ≤ κ + 0 - 1 := by
      obtain ⟨op, ho, rfl⟩ := Option.map_eq_some_iff.1 hg
      exact tf.ct.gs i op ho
    have := hcom.k1
    exact tf.over i g hg (by omega) (by omega) hc
  · obtain ⟨i, hi⟩ := List.mem_iff_getElem?.1 hx
    rw [List.getElem?_drop] at hi
    have hi' : gs[1 + i]? = some x := by simpa [crowd] using hi
    have hlt := (Array.getElem?_eq_some_iff.1 hi').1
    rw [hcom.size] at hlt
    obtain ⟨y, hy, hq⟩ := hcom.old (1 + i) (by omega) (by omega)
    rw [hi'] at hy; cases hy
    exact ⟨_, hq.leaves⟩
  · have hx' : gs[i]? = some x := hx
    have hlt := (Array.getElem?_eq_some_iff.1 hx').1
    rw [hcom.size] at hlt
    obtain ⟨y, hy, hq⟩ := hcom.old i (by omega) (by omega)
    rw [hx'] at hy; cases hy
    refine ⟨qo i, ?_⟩
    have e : (t ++ MemOp.ofEvents 0 a.frame.fn a.frame.place es).deaf i (t ++ MemOp.ofEvents 0 a.frame.fn a.frame.place es).size = Deaf t i := Deaf_other t (g := i) (g' := 0) (by omega) _ g_of_ofEvents
    rw [e]
    exact hq.hears _

/-- The run ends: leavers may slip meanwhile. -/
theorem done_of_fin {Fin : Value → World → Prop} {g : Goroutine} (htag : st.tag = .law) (h : FinAt P Fin st g w) : Done P ty Fin st g w := by
  intro d gs sl κ j D So qo t h0 hc
  obtain ⟨hrun, hfin⟩ := h
  -- the leavers' steps left
  have key : ∀ n (gs : Array Goroutine) (d : Nat) (sl : Option (Nat × Nat)) (qo : Nat → Nat) (t : Trace), sumTo κ qo ≤ n → gs[0]? = some g → Com P ty κ j gs (w.at d) t D So qo st → Ends P Fin gs (w.at d) sl t := by
    intro n
    induction n with
    | zero => ?_
    | succ n ih => ?_
    all_goals
      intro gs d sl qo t hq h0 hc
      have haw : ∀ x ∈ gs, awake x := by
        intro x hx
        obtain ⟨i, hi⟩ := Array.mem_iff_getElem?.1 hx
        apply awake_of
        rcases Nat.eq_zero_or_pos i with rfl | hp
        · rw [h0] at hi; cases hi; exact .inl hrun
        · have hlt := (Array.getElem?_eq_some_iff.1 hi).1
          have hj := hc.lawj htag
          rw [hc.size] at hlt
          obtain ⟨y, hy, hqq⟩ := hc.old i hp (by omega)
          rw [hi] at hy; cases hy
          exact hqq.status.elim .inl fun x => .inr (.inr x)
      obtain ⟨i, x, d', sl', hi, hx, hstep⟩ := crowd_pick (P := P) (w := w.at d) (sl := sl) haw ⟨0, g, h0, hrun⟩
      have hc' := hc.at d'
      rcases Nat.eq_zero_or_pos i with rfl | hp
      · rw [h0] at hi; cases hi
        obtain ⟨v, es, hend, hev, hF⟩ := hfin d'
        have hr := runT_ended' (P := P) (sl := sl') h0 hend
        have hg := good_of_end (Fin := Fin) (w := w.at d') htag h0 hc' hev hF sl (w.at d)
        exact ⟨0, _, .done v, w.at d', _, by simp only [runNT, hstep]; rw [show (crowd gs ((w.at d).at d') sl') = crowd gs (w.at d') sl' from rfl, hr], rfl, by simp only [step, hstep]; rw [show (crowd gs ((w.at d).at d') sl') = crowd gs (w.at d') sl' from rfl, hr], hg⟩
      · have hlt := (Array.getElem?_eq_some_iff.1 hi).1
        have hj := hc.lawj htag
        rw [hc.size] at hlt
        obtain ⟨y, hy, hqq⟩ := hc'.old i hp (by omega)
        rw [hi] at hy; cases hy
        cases hqi : qo i with
        | zero => rw [hqi] at hqq; rw [hqq.1] at hx; cases hx
        | succ k =>
          rw [hqi] at hqq
          rcases hqq with ⟨hf, _⟩ | ⟨_, g', es, hm, hstp, hq'⟩
          · rw [hf] at hx; cases hx
          have hr := runT_crowd_go (P := P) (sl := sl') (w := w.at d') (i := i) hi (by rw [show (i == 0) = false by simp; omega]; exact hstp (w.at d'))
          have h8 : sumTo κ (upd qo i k) + qo i = sumTo κ qo + k := sumTo_upd qo k id (show i < κ by omega)
          have hslip := hc'.slip (k := k) (g' := g') hp (show i < κ by omega) hm hq' (gs' := (gs.map (Conc.woken P x g' (w.at d'))).setIfInBounds i g') (fn := x.frame.fn) (pos := x.frame.place) (by simp) (get_map_set_same _ _ _ (by rw [hc.size]; omega)) (fun z hz e => by
            rw [get_map_set _ _ _ _ (by omega)]
            cases hgz : gs[z]? with
            | none => rfl
            | some v =>
              have hltz := (Array.getElem?_eq_some_iff.1 hgz).1
              rw [hc.size] at hltz
              obtain ⟨u, hu, hqx⟩ := hc.old z hz (by omega)
              rw [hgz] at hu; cases hu
              simp [woken_quitsD hqx])
          have h00 : ((gs.map (Conc.woken P x g' (w.at d'))).setIfInBounds i g')[0]? = some g := by rw [get_map_set _ _ _ _ (by omega), h0]; simp [woken_run hrun]
          first
          | (exfalso; omega)
          | exact ends_next (by rw [hstep]; exact hr) (ih _ d' sl' (upd qo i k) _ (by omega) h00 hslip)
  exact key _ gs d sl qo t (Nat.le_refl _) h0 hc

/-- ████ FROM THE ENTRY TO THE RETURN, ON EVERY TAPE. ████ -/
theorem farm_run {Fin : Value → World → Prop} {g : Goroutine} (h : Done P ty Fin st g w) (htag : st.tag = .law) (hd : st.d = 0) (hgs : st.gs = 1) (hgrp : ∀ b, ¬ st.grp b) :
    ∃ M last o w' t', runNT P (M + 1) (solo g w) #[] = (.ended o w', t') ∧ runN P M (solo g w) = .next last ∧ step P last = .ended o w' ∧ Good P Fin last o w' t' := by
  have notouch : ∀ (i : Nat) (x : Touch), touchAt (#[] : Trace) i = some x → False := fun i x hx => by simp [touchAt, Trace.act?] at hx
  refine h w.drawn #[g] none 1 0 (fun _ => ⟨0, 0, 0, fun _ => False, fun _ => False, 0, []⟩) (fun _ _ => False) (fun _ => 0) #[] rfl ?_
  refine ⟨rfl, Nat.le_refl _, hgs, by omega, fun i hi => by omega, fun i h1 h2 => by omega, ⟨⟨fun i op x hi => by simp at hi, fun _ _ _ _ x => x.elim, fun k h1 h2 => by omega, fun l _ _ i x hx => (notouch i x hx).elim, fun l _ _ i x hx => (notouch i x hx).elim, fun said => ?_, fun i op hi => by simp at hi⟩, by simp, by rw [hd]; rfl, fun i hi => by omega, ⟨0, Nat.zero_le _, fun x _ i _ he => by simp [Trace.act?] at he, fun i hi => by omega⟩, fun i g hg => by simp [Trace.g?] at hg⟩,
    fun i hi => by omega, fun k hk b hb => hb.elim, fun i hi => by omega, fun i hi => by omega, fun i _ hi => by omega, fun i hi => by omega, fun i hi => by omega, fun i _ hi => by omega, fun i hi => by omega, fun _ hl _ => absurd htag hl, fun _ => rfl, fun hl => absurd htag hl, fun b _ => hgrp b, fun b hb => absurd hb (hgrp b), fun hl => absurd htag hl, fun hl => absurd htag hl⟩
  rintro ⟨i, j, _, ⟨x, y, hx, _⟩, _⟩
  simp [Trace.act?] at hx
end

end Go.Proofs.Ytiodikflmijhkaa.Farm