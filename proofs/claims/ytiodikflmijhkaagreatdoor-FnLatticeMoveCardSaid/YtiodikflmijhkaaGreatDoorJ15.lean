/- Joined texts: F1 F2. -/
import Derived.Conc.CrowdRun
import Derived.Conc.CrowdComm
import Derived.Conc.Token
section
namespace Go.Proofs.YtiodikflmijhkaaGreatDoor.Farm
open Go.Conc Go.ConcN
open Go.ConcR (KK wgBlock WgAt stA smA rd wr mk Payload Aside2 DC0 Bk)

def No : Nat → Loc → Prop := fun _ _ => False

/-- What a worker suffers: the blocks of S stand; the group's block stays one. -/
structure RK (ty : TypeId) (wg : Nat) (S : Nat → Prop) (w w₁ : World) : Prop where
  size : w.heap.size ≤ w₁.heap.size
  keep : ∀ b, S b → w₁.heap[b]? = w.heap[b]?
  live : WgLive ty wg w → WgLive ty wg w₁

theorem RK.refl {ty : TypeId} {wg : Nat} {S : Nat → Prop} (w : World) : RK ty wg S w w := ⟨Nat.le_refl _, fun _ _ => rfl, id⟩
theorem RK.trans {ty : TypeId} {wg : Nat} {S : Nat → Prop} {a b c : World} (h : RK ty wg S a b) (k : RK ty wg S b c) : RK ty wg S a c :=
  ⟨Nat.le_trans h.size k.size, fun x hx => (k.keep x hx).trans (h.keep x hx), k.live ∘ h.live⟩
theorem RK.at {ty : TypeId} {wg : Nat} {S : Nat → Prop} (w : World) (d : Nat) : RK ty wg S w (w.at d) := ⟨Nat.le_refl _, fun _ _ => rfl, id⟩

/-- A worker's entry: it reads cells of S alone; no word. -/
def EvK (S : Nat → Prop) (B : Nat) (e : Event) : Prop :=
  (∀ x, (MemAct.ofEvent e).touch? = some x → ∃ a, x.loc = .cell a ∧ S a.block ∧ x.write = false) ∧ e.loc ≠ .mark .disable ∧ e.loc ≠ .mark .enable ∧ (∀ a, e.loc ≠ .mark (.release a)) ∧ (MemAct.ofEvent e).low B
/-- A worker's idle step: nothing turns but the count of draws. -/
def DK (S : Nat → Prop) (w w' : World) (es : Array Event) : Prop := (∃ d, w' = w.at d) ∧ ∀ e ∈ es, EvK S w.heap.size e

section
variable [Payload] (P : Program) (ty : TypeId) (wg c : Nat)

/-- A worker's stops: a new block of its own · a send of the next value on its channel · the close, behind which it goes on to its Done. 'O': its own blocks; 'S': all that it reads; 'ss': what is still to be sent. -/
inductive KStop (K : (Nat → Prop) → (Nat → Prop) → List Value → Goroutine → World → Prop) (O S : Nat → Prop) (ss : List Value) (g : Goroutine) (w : World) : Prop
  | new (cs : Array Value) (t : TypeId) (g' : Goroutine) : stepG P false g w = .go g' (w.alloc (.cells cs t)) #[] →
      K (fun b => O b ∨ b = w.heap.size) (fun b => S b ∨ b = w.heap.size) ss g' (w.alloc (.cells cs t)) → KStop K O S ss g w
  | send (v z : Value) (r : List Value) (g₂ : Goroutine) (es : Array Event) : ss = v :: r → stepG P false g w = .comm g₂ #[scase c v z] true .send w es → (∀ e ∈ es, EvK S w.heap.size e) →
      K O S r (Conc.served g₂ undef) w → KStop K O S ss g w
  | close (g' : Goroutine) (C n m : Nat) (val : Value) : ss = [] → O C → mayWake P g = true → g'.status = .running → PayAt C n w →
      (∀ buf s r, w.heap[c]? = some (.chan 6 buf false s r false) → stepG P false g w = .go g' (w.setChan c 6 buf true s r false) (closeEvents c)) →
      Goes P false (RW ty wg C n 0 0) (DWs wg No No C n 1) (AtR0 P ty wg C n 0 1 val) m g' w → KStop K O S ss g w

def Wk : Nat → (Nat → Prop) → (Nat → Prop) → List Value → Goroutine → World → Prop
  | 0, _, _, _, _, _ => False
  | N + 1, O, S, ss, g, w => ∃ m, Goes P false (RK ty wg S) (DK S) (fun g w => g.status = .running ∧ KStop P ty wg c (Wk N) O S ss g w) m g w
end

inductive MTag | law | opn (p : Bool) | w2 (vs : Nat) | w3 | fin

/-- What the starter is about. -/
structure MSt where
  tag : MTag
  d : Nat
  wg : Nat
  bd : Nat
  gs : Nat
  grp : Nat → Prop
  may : Nat → Prop
  zone : Nat → Prop
  chs : Nat → Prop
  q : Nat → List Value

/-- What the starter suffers while workers run. -/
structure RM (ty : TypeId) (wg : Nat) (may : Nat → Prop) (w w₁ : World) : Prop where
  tape : w₁.tape = w.tape
  os : w₁.os = w.os
  output : w₁.output = w.output
  size : w.heap.size ≤ w₁.heap.size
  mine : ∀ b, may b → w₁.heap[b]? = w.heap[b]?
  low : ∀ b, b < wg → w₁.heap[b]? = w.heap[b]?
  live : WgLive ty wg w → WgLive ty wg w₁

theorem RM.refl {ty : TypeId} {wg : Nat} {may : Nat → Prop} (w : World) : RM ty wg may w w := ⟨rfl, rfl, rfl, Nat.le_refl _, fun _ _ => rfl, fun _ _ => rfl, id⟩
theorem RM.trans {ty : TypeId} {wg : Nat} {may : Nat → Prop} {a b c : World} (h : RM ty wg may a b) (k : RM ty wg may b c) : RM ty wg may a c :=
  ⟨k.tape.trans h.tape, k.os.trans h.os, k.output.trans h.output, Nat.le_trans h.size k.size, fun x hx => (k.mine x hx).trans (h.mine x hx), fun x hx => (k.low x hx).trans (h.low x hx), k.live ∘ h.live⟩
theorem RM.at {ty : TypeId} {wg : Nat} {may : Nat → Prop} (w : World) (d : Nat) : RM ty wg may w (w.at d) := ⟨rfl, rfl, rfl, Nat.le_refl _, fun _ _ => rfl, fun _ _ => rfl, id⟩

/-- What nobody but the starter turns: its own blocks, and a channel that it has not yet given away. -/
def MSt.mr (st : MSt) (b : Nat) : Prop := st.may b ∨ (st.grp b ∧ ¬ st.chs b ∧ st.wg < b)
def ROf (ty : TypeId) (st : MSt) (w w₁ : World) : Prop := (st.tag = .law → AtRel w w₁) ∧ (st.tag ≠ .law → RM ty st.wg st.mr w w₁)

theorem ROf.refl (ty : TypeId) (st : MSt) (w : World) : ROf ty st w w := ⟨fun _ => AtRel.refl w, fun _ => RM.refl w⟩
theorem ROf.at (ty : TypeId) (st : MSt) (w : World) (d : Nat) : ROf ty st w (w.at d) := ⟨fun _ => ⟨d, rfl⟩, fun _ => RM.at w d⟩
theorem ROf.trans (ty : TypeId) (st : MSt) (a b c : World) (h : ROf ty st a b) (k : ROf ty st b c) : ROf ty st a c :=
  ⟨fun e => atRel_trans _ _ _ (h.1 e) (k.1 e), fun e => RM.trans (h.2 e) (k.2 e)⟩

def ShL (grp : Nat → Prop) : Loc → Prop
  | .cell a => grp a.block
  | .obj r => grp r
  | _ => False

/-- The starter's entry: a shared place is not touched plainly; it writes cells of 'may' alone; no word of deafness, no release. -/
def EvM (st : MSt) (B : Nat) (e : Event) : Prop :=
  (∀ x, (MemAct.ofEvent e).touch? = some x → (ShL st.grp x.loc ∧ x.kind ≠ .plain) ∨ (¬ ShL st.grp x.loc ∧ (x.write = true → (∃ a, x.loc = .cell a ∧ st.may a.block) ∨ ∃ r, x.loc = .obj r ∧ st.may r))) ∧ e.loc ≠ .mark .disable ∧ e.loc ≠ .mark .enable ∧ (∀ a, e.loc ≠ .mark (.release a)) ∧ (MemAct.ofEvent e).low B
structure DM (st : MSt) (w w' : World) (es : Array Event) : Prop where
  size : w.heap.size ≤ w'.heap.size
  law : st.tag ≠ .law → w'.heap.size = w.heap.size
  keep : ∀ b, b < w.heap.size → ¬ st.may b → w'.heap[b]? = w.heap[b]?
  evs : ∀ e ∈ es, EvM st w'.heap.size e

section
variable [Payload] (P : Program) (ty : TypeId) (Post : MSt → Goroutine → World → Prop)

/-- It stands at a receive on one of its workers' channels. -/
structure RecvAt (K : MSt → Goroutine → World → Prop) (st : MSt) (c : Nat) (z : Value) (g g₂ : Goroutine) (w : World) : Prop where
  run : g.status = .running
  fr : g.frame = g₂.frame
  cs : g.callers = g₂.callers
  dy : g.dying = g₂.dying
  step : ∀ w₁, ROf ty st w w₁ → ∃ es, stepG P true g w₁ = .comm g₂ #[rcase c z] true (.recv true) w₁ es ∧ ∀ e ∈ es, EvM st w₁.heap.size e
  some : ∀ v r, st.q c = v :: r → K { st with q := upd st.q c r } (Conc.served g₂ (recvd true v true)) w
  none : st.q c = [] → K st (Conc.served g₂ (recvd true z false)) w

/-- It stands at the semaphore. -/
structure SemAt (K : MSt → Goroutine → World → Prop) (st : MSt) (g : Goroutine) (w : World) : Prop where
  run : g.status = .running
  off : g.offers = none
  wait : ∀ w₁, ROf ty st w w₁ → (∃ s, WgAt ty st.wg w₁ s 0) → stepG P true g w₁ = .go { g with status := .blocked } w₁ #[]
  pass : ∀ w₁, ROf ty st w w₁ → WgAt ty st.wg w₁ 0 1 → ∃ g', stepG P true g w₁ = .go g' (w₁.setCell (smA st.wg) (.int .u32 0)) (semEvents (smA st.wg)) ∧ K { st with tag := .fin } g' (w₁.setCell (smA st.wg) (.int .u32 0))

inductive MStop (K : MSt → Goroutine → World → Prop) (st : MSt) (g : Goroutine) (w : World) : Prop
  | newc (o : Obj) (g' : Goroutine) : st.tag = .opn false → st.d = 0 → stepG P true g w = .go g' (w.alloc o) #[] → K { st with grp := fun b => st.grp b ∨ b = w.heap.size } g' (w.alloc o) → MStop K st g w
  | new (o : Obj) (g' : Goroutine) : st.tag = .opn false → st.d = 0 → stepG P true g w = .go g' (w.alloc o) #[] → K { st with may := fun b => st.may b ∨ b = w.heap.size } g' (w.alloc o) → MStop K st g w
  | wg (g' : Goroutine) (Z may : Nat → Prop) : st.tag = .law → st.d = 0 → stepG P true g w = .go g' (w.alloc (wgBlock ty 0 0)) #[] → (∀ b, st.zone b ∨ w.heap.size ≤ b → Z b) → (∀ b, may b → st.may b ∧ b < w.heap.size) →
      K { st with tag := .opn false, wg := w.heap.size, bd := 0, grp := fun b => st.grp b ∨ b = w.heap.size, may := may, zone := Z, chs := fun _ => False } g' (w.alloc (wgBlock ty 0 0)) → MStop K st g w
  | dis (g' : Goroutine) : st.tag = .opn false → st.d = 0 → stepG P true g w = .go g' w #[mk .disable] → K { st with d := 1 } g' w → MStop K st g w
  | en (g' : Goroutine) : (st.tag = .opn true ∨ st.tag = .fin) → st.d = 1 → stepG P true g w = .go g' w #[mk .enable] → K { st with d := 0 } g' w → MStop K st g w
  | add : st.tag = .opn false → st.d = 1 → st.bd < 1000 → (∀ v : Nat, v < 2147483647 → WgAt ty st.wg w (v * KK) 0 →
      ∃ g', stepG P true g w = .go g' (w.setCell (stA st.wg) (.int .u64 ((v + 1) * KK))) #[rd (stA st.wg), wr (stA st.wg)] ∧ K { st with tag := .opn true, bd := st.bd + 1 } g' (w.setCell (stA st.wg) (.int .u64 ((v + 1) * KK)))) → MStop K st g w
  | go (g' child : Goroutine) (S : Nat → Prop) (c Nw : Nat) (vs : List Value) (may : Nat → Prop) : st.tag = .opn true → st.d = 0 → stepG P true g w = .spawn g' child w #[] → child.status = .running → (∀ b, may b → st.may b) →
      (∀ b, S b → st.zone b ∧ ¬ may b ∧ ¬ st.grp b ∧ (b < st.wg ∨ st.may b) ∧ ∃ cs t f, w.heap[b]? = some (.cells cs t f)) → w.heap[c]? = some (.chan 6 #[] false 0 0 false) → st.grp c → ¬ st.chs c → st.wg < c → vs.length ≤ 6 → Nw ≤ 10 → st.gs < 1000 →
      Wk P ty st.wg c Nw (fun _ => False) S vs child w →
      K { st with tag := .opn false, gs := st.gs + 1, may := may, chs := fun b => st.chs b ∨ b = c, q := upd st.q c vs } g' w → MStop K st g w
  | recv (c : Nat) (z : Value) (g₂ : Goroutine) : st.tag = .opn false → st.d = 0 → st.chs c → RecvAt P ty K st c z g g₂ w → MStop K st g w
  | w1 : st.tag = .opn false → st.d = 1 → (∀ v : Nat, v ≤ st.bd → WgAt ty st.wg w (v * KK) 0 → ∃ g', stepG P true g w = .go g' w #[rd (stA st.wg)] ∧ (v = 0 → K { st with tag := .fin } g' w) ∧ (v ≠ 0 → K { st with tag := .w2 v } g' w)) → MStop K st g w
  | w2 (vs : Nat) : st.tag = .w2 vs → st.d = 1 → (∀ v : Nat, v ≤ vs → WgAt ty st.wg w (v * KK) 0 →
      (v = vs → ∃ g', stepG P true g w = .go g' (w.setCell (stA st.wg) (.int .u64 (v * KK + 1))) #[rd (stA st.wg), wr (stA st.wg)] ∧ K { st with tag := .w3 } g' (w.setCell (stA st.wg) (.int .u64 (v * KK + 1)))) ∧
      (v < vs → ∃ g', stepG P true g w = .go g' w #[rd (stA st.wg)] ∧ K { st with tag := .opn false, bd := vs - 1 } g' w)) → MStop K st g w
  | w3 : st.tag = .w3 → st.d = 1 → SemAt P ty K st g w → MStop K st g w
  | w4 : st.tag = .fin → st.d = 1 → (WgAt ty st.wg w 0 0 → ∃ g', stepG P true g w = .go g' w #[rd (stA st.wg)] ∧ K st g' w) → MStop K st g w
  | acq (g' : Goroutine) (may zone : Nat → Prop) : st.tag = .fin → st.d = 0 → stepG P true g w = .go g' w #[mk (.acquire (stA st.wg))] → (∀ b, st.zone b → b < w.heap.size → zone b) → (∀ b, may b → ¬ zone b ∧ ¬ st.grp b) →
      K { st with tag := .law, may := may, zone := zone } g' w → MStop K st g w
  | cont : st.tag = .law → st.d = 0 → Post st g w → MStop K st g w

def Sc : Nat → MSt → Goroutine → World → Prop
  | 0, _, _, _ => False
  | N + 1, st, g, w => ∃ m, Goes P true (ROf ty st) (DM st) (fun g w => g.status = .running ∧ MStop P ty Post (Sc N) st g w) m g w

variable {P ty Post}
theorem Sc.rely {N : Nat} {st : MSt} {g : Goroutine} {w w₁ : World} (h : Sc P ty Post N st g w) (r : ROf ty st w w₁) : Sc P ty Post N st g w₁ := by
  cases N with
  | zero => exact h
  | succ N =>
    obtain ⟨m, h⟩ := h
    exact ⟨m, Goes.rely (ROf.trans ty st) h r⟩
theorem RecvAt.rely {N c : Nat} {z : Value} {st : MSt} {g g₂ : Goroutine} {w w₁ : World} (h : RecvAt P ty (Sc P ty Post N) st c z g g₂ w) (r : ROf ty st w w₁) : RecvAt P ty (Sc P ty Post N) st c z g g₂ w₁ :=
  ⟨h.run, h.fr, h.cs, h.dy, fun w₂ r₂ => h.step w₂ (ROf.trans ty st _ _ _ r r₂), fun v r' hq => (h.some v r' hq).rely (st := { st with q := upd st.q c r' }) r, fun hq => (h.none hq).rely r⟩
theorem SemAt.rely {N : Nat} {st : MSt} {g : Goroutine} {w w₁ : World} (h : SemAt P ty (Sc P ty Post N) st g w) (r : ROf ty st w w₁) : SemAt P ty (Sc P ty Post N) st g w₁ :=
  ⟨h.run, h.off, fun w₂ r₂ => h.wait w₂ (ROf.trans ty st _ _ _ r r₂), fun w₂ r₂ => h.pass w₂ (ROf.trans ty st _ _ _ r r₂)⟩
theorem Wk.rely {P : Program} {ty : TypeId} {wg c N : Nat} {O S : Nat → Prop} {ss : List Value} {g : Goroutine} {w w₁ : World} (h : Wk P ty wg c N O S ss g w) (r : RK ty wg S w w₁) : Wk P ty wg c N O S ss g w₁ := by
  cases N with
  | zero => exact h
  | succ N =>
    obtain ⟨m, h⟩ := h
    exact ⟨m, Goes.rely (R := RK ty wg S) (fun _ _ _ a b => RK.trans a b) h r⟩
end

/-! ### the trace's families grow -/
section
variable {Sh Sh' : Loc → Prop} {Rd Rd' : Nat → Loc → Prop} {t : Trace} {j : Nat}

/-- A new place, which nobody has touched, joins a family or the shared ones. -/
theorem ct_grow (h : CT Sh No Rd t j) (hs : ∀ l, Sh l → Sh' l) (hs' : ∀ l, Sh' l → Sh l ∨ ∀ i a, touchAt t i = some a → a.loc ≠ l)
    (hr : ∀ k l, Rd k l → Rd' k l) (hr' : ∀ k l, Rd' k l → Rd k l ∨ ∀ i a, touchAt t i = some a → a.loc ≠ l) : CT Sh' No Rd' t j := by
  refine ⟨fun i op x hi hx hsx => ?_, fun k _ _ l hl => hl.elim, fun k k1 kj l hl => ?_, fun l hl hk => ?_, fun l hl _ => ?_, h.nr, h.gs⟩
  · rcases hs' _ hsx with h1 | h1
    · exact h.quiet i op x hi hx h1
    · exact absurd rfl (h1 i x (by rw [touchAt_of hi]; exact hx))
  · rcases hr' k l hl with h1 | h1
    · exact h.rd k k1 kj l h1
    · exact fun i a ha e => absurd e (h1 i a ha)
  · exact h.free l (fun x => hl (hs l x)) fun k k1 kj => ⟨fun x => x.elim, fun x => (hk k k1 kj).2 (hr k l x)⟩
  · exact h.mine l (fun x => hl (hs l x)) fun k _ _ x => x.elim

theorem CT.congr (h : CT Sh No Rd t j) (hr : ∀ k, 1 ≤ k → k ≤ j → ∀ l, Rd' k l ↔ Rd k l) : CT Sh No Rd' t j :=
  ⟨h.quiet, h.own, fun k k1 kj l hl => h.rd k k1 kj l ((hr k k1 kj l).1 hl), fun l hl hk => h.free l hl fun k k1 kj => ⟨(hk k k1 kj).1, fun x => (hk k k1 kj).2 ((hr k k1 kj l).2 x)⟩, h.mine, h.nr, h.gs⟩
end

/-- Whatever cell it touches lies below the bound. -/
def tlow (B : Nat) (x : MemAct) : Prop := ∀ y, x.touch? = some y → (∀ a, y.loc = .cell a → a.block < B) ∧ ∀ r, y.loc = .obj r → r < B
theorem tlow_mono {B B' : Nat} (h : B ≤ B') {x : MemAct} (k : tlow B x) : tlow B' x := fun y h1 => ⟨fun a h2 => Nat.lt_of_lt_of_le ((k y h1).1 a h2) h, fun r h2 => Nat.lt_of_lt_of_le ((k y h1).2 r h2) h⟩
theorem tlow_of_none {B : Nat} {x : MemAct} (h : x.touch? = none) : tlow B x := fun y h1 => by rw [h] at h1; cases h1
theorem tlow_of_low {B : Nat} {x : MemAct} (h : x.low B) : tlow B x := by
  intro y hox
  refine ⟨fun a e => ?_, fun r e => ?_⟩
  · cases x with
    | access ev => simp only [MemAct.touch?, Option.some.injEq] at hox; subst hox; simp only at e; simpa only [MemAct.low, e, Loc.low] using h
    | mark m => cases m <;> simp only [MemAct.touch?, Option.some.injEq, reduceCtorEq] at hox <;> (subst hox; simp only [Loc.cell.injEq] at e; subst e; exact h)
    | _ => simp [MemAct.touch?] at hox
  · cases x with
    | access ev => simp only [MemAct.touch?, Option.some.injEq] at hox; subst hox; simp only at e; simpa only [MemAct.low, e, Loc.low] using h
    | mark m => cases m <;> simp only [MemAct.touch?, Option.some.injEq, reduceCtorEq] at hox <;> (subst hox; cases e)
    | _ => simp [MemAct.touch?] at hox
theorem fresh_of_low {t : Trace} {B : Nat} (h : ∀ op ∈ t, tlow B op.act) {a : Addr} (hb : B ≤ a.block) : ∀ i x, touchAt t i = some x → x.loc ≠ .cell a := by
  intro i x hx e
  obtain ⟨op, hop, hox⟩ := touch_of hx
  have := (h op (Array.mem_of_getElem? hop) x hox).1 a e
  omega
theorem fresh_of_low' {t : Trace} {B : Nat} (h : ∀ op ∈ t, tlow B op.act) {r : Nat} (hb : B ≤ r) : ∀ i x, touchAt t i = some x → x.loc ≠ .obj r := by
  intro i x hx e
  obtain ⟨op, hop, hox⟩ := touch_of hx
  have := (h op (Array.mem_of_getElem? hop) x hox).2 r e
  omega

end Go.Proofs.YtiodikflmijhkaaGreatDoor.Farm
end

section
set_option linter.unusedSectionVars false
set_option linter.unusedVariables false
namespace Go.Proofs.YtiodikflmijhkaaGreatDoor.Farm
open Go.Conc Go.ConcN
open Go.ConcR (KK wgBlock WgAt stA smA rd wr mk Payload Aside2 DC0 Bk g_of_ofEvents loc_of_ofEvent ofEvent_loc_mark)

structure TF (κ j B : Nat) (grp : Nat → Prop) (Rd : Nat → Loc → Prop) (d0 : Nat) (dw : Nat → Nat) (a : Option Addr) (rl : Nat → Prop) (t : Trace) : Prop where
  ct : CT (ShL grp) No Rd t (κ + j - 1)
  low : ∀ op ∈ t, tlow B op.act
  deaf0 : Deaf t 0 = d0
  deafW : ∀ i, i < j → Deaf t (κ + i) = dw i
  gr : ∃ i0, i0 ≤ t.size ∧ (∀ x, a = some x → ∀ i, i0 ≤ i → t.act? i ≠ some (.mark (.release x))) ∧ ∀ i, i < j → rl i → ∃ x r, a = some x ∧ i0 ≤ r ∧ RelBy x t (κ + i) r
  over : ∀ i g, t.g? i = some g → 1 ≤ g → g < κ → t.counts i → ∃ q, t.g? q = some 0 ∧ HappensBefore t i q

theorem apart_no {Sh : Loc → Prop} {Rd : Nat → Loc → Prop} (h : ∀ k l, Rd k l → ¬ Sh l) : Apart Sh No Rd := ⟨fun _ _ _ x => x.elim, fun _ _ _ x => x.elim, fun _ _ x => x.elim, h⟩

/-- What a worker's step may list. -/
def EvW' (grp : Nat → Prop) (wg : Option Addr) (S : Loc → Prop) (B : Nat) (e : Event) : Prop :=
  (∀ x, (MemAct.ofEvent e).touch? = some x → (ShL grp x.loc ∧ x.kind ≠ .plain ∧ x.kind ≠ .said) ∨ (S x.loc ∧ x.write = false)) ∧ (∀ a, wg = some a → e.loc ≠ .mark (.release a)) ∧ tlow B (MemAct.ofEvent e)

theorem lt_of_g {t : Trace} {i g : Nat} (h : t.g? i = some g) : i < t.size := by
  obtain ⟨op, ho, _⟩ := Option.map_eq_some_iff.1 h
  exact lt_size_of_getElem? ho

theorem ofEvents_mem {g : Nat} {fn : FuncId} {pos : String} {es : Array Event} {op : MemOp} (h : op ∈ MemOp.ofEvents g fn pos es) : ∃ e ∈ es, op = { g, fn, pos, act := .ofEvent e } := by
  rw [ofEvents_eq] at h
  obtain ⟨e, he, rfl⟩ := Array.mem_map.1 h
  exact ⟨e, he, rfl⟩

theorem mute_act {e : Event} (h : e.mute = true) : MemAct.ofEvent e = .mark .disable ∨ MemAct.ofEvent e = .mark .enable := by
  obtain ⟨loc, wr, sy⟩ := e
  cases loc <;> simp_all [Event.mute]
  rename_i m
  cases m <;> simp_all [MemAct.ofEvent]

theorem low_all {t u : Trace} {B B' : Nat} (h : ∀ op ∈ t, tlow B op.act) (hB : B ≤ B') (hu : ∀ op ∈ u, tlow B' op.act) : ∀ op ∈ t ++ u, tlow B' op.act :=
  fun op hop => (Array.mem_append.1 hop).elim (fun x => tlow_mono hB (h op x)) (hu op)
theorem norel_app {t u : Trace} {i0 : Nat} {x : Addr} (h : ∀ i, i0 ≤ i → t.act? i ≠ some (.mark (.release x))) (hu : ∀ op ∈ u, op.act ≠ .mark (.release x)) : ∀ i, i0 ≤ i → (t ++ u).act? i ≠ some (.mark (.release x)) := by
  intro i hi he
  obtain ⟨op, ho, hoa⟩ := Option.map_eq_some_iff.1 he
  rcases getElem?_append_cases ho with ⟨_, ho'⟩ | ⟨_, hou⟩
  · exact h i hi (by rw [act?_of ho', hoa])
  · exact hu op hou hoa

theorem over_app {κ : Nat} {t u : Trace} (h : ∀ i g, t.g? i = some g → 1 ≤ g → g < κ → t.counts i → ∃ q, t.g? q = some 0 ∧ HappensBefore t i q)
    (hu : ∀ op ∈ u, (op.g = 0 ∨ κ ≤ op.g) ∨ op.act.touch? = none) : ∀ i g, (t ++ u).g? i = some g → 1 ≤ g → g < κ → (t ++ u).counts i → ∃ q, (t ++ u).g? q = some 0 ∧ HappensBefore (t ++ u) i q := by
  intro i g hg h1 hk hc
  obtain ⟨x, hx, _⟩ := id hc
  obtain ⟨op, hop, hox⟩ := touch_of hx
  rcases getElem?_append_cases hop with ⟨hi, hop'⟩ | ⟨_, hopu⟩
  · obtain ⟨q, hq, hb⟩ := h i g (by rw [← g?_old (u := u) hi]; exact hg) h1 hk ((counts_old hi).1 hc)
    exact ⟨q, by rw [g?_old (lt_of_g hq)]; exact hq, hb_app u hb⟩
  · have e : op.g = g := by simpa [Trace.g?, hop] using hg
    rcases hu op hopu with (h0 | h0) | h0
    · omega
    · omega
    · rw [h0] at hox; cases hox

section
variable {κ j B B' : Nat} {grp : Nat → Prop} {Rd : Nat → Loc → Prop} {d0 : Nat} {dw : Nat → Nat} {a : Option Addr} {rl : Nat → Prop} {t : Trace}

/-- A step of worker number i. -/
theorem TF.worker (h : TF κ j B grp Rd d0 dw a rl t) (hk : 1 ≤ κ) (hA : ∀ k l, Rd k l → ¬ ShL grp l) {i : Nat} (hi : i < j) {fn : FuncId} {pos : String} {es : Array Event} {dd : Nat} {rl' : Nat → Prop} (hB : B ≤ B')
    (hev : ∀ e ∈ es, EvW' grp a (Rd (κ + i)) B' e) (hd : deafBehind (dw i) es = dd)
    (hrl : ∀ x, x < j → x ≠ i → rl' x → rl x)
    (hrel : rl' i → (∃ x, a = some x ∧ RelBy x (t ++ MemOp.ofEvents (κ + i) fn pos es) (κ + i) t.size) ∨ (rl i ∧ ∀ x r, a = some x → RelBy x t (κ + i) r → RelBy x (t ++ MemOp.ofEvents (κ + i) fn pos es) (κ + i) r)) :
    TF κ j B' grp Rd d0 (upd dw i dd) a rl' (t ++ MemOp.ofEvents (κ + i) fn pos es) := by
  obtain ⟨i0, hi0, hnr, hrl0⟩ := h.gr
  refine ⟨h.ct.appW (apart_no hA) (k := κ + i) (by omega) (by omega) fun op hop => ?_, low_all h.low hB fun op hop => ?_, ?_, fun x hx => ?_, ⟨i0, by simp; omega, fun y hy => norel_app (hnr y hy) fun op hop => ?_, fun x hx hr => ?_⟩, over_app h.over fun op hop => ?_⟩
  · obtain ⟨e, he, rfl⟩ := ofEvents_mem hop
    refine ⟨rfl, fun y hy => ?_⟩
    rcases (hev e he).1 y hy with h1 | h1
    · exact .inl h1
    · exact .inr (.inr h1)
  · obtain ⟨e, he, rfl⟩ := ofEvents_mem hop
    exact (hev e he).2.2
  · rw [Deaf_other t (by omega) _ g_of_ofEvents, h.deaf0]
  · by_cases e : x = i
    · subst e; rw [Deaf_own, h.deafW x hx, upd_same]; exact hd
    · rw [Deaf_other t (by omega) _ g_of_ofEvents, h.deafW x hx, upd_ne dw _ e]
  · obtain ⟨e, he, rfl⟩ := ofEvents_mem hop
    exact fun ee => (hev e he).2.1 y hy (loc_of_ofEvent ee)
  · by_cases e : x = i
    · subst e
      rcases hrel hr with ⟨y, ha, hb⟩ | ⟨h1, h2⟩
      · exact ⟨y, t.size, ha, hi0, hb⟩
      · obtain ⟨y, r, ha, hr0, hb⟩ := hrl0 x hx h1
        exact ⟨y, r, ha, hr0, h2 y r ha hb⟩
    · obtain ⟨y, r, ha, hr0, hb⟩ := hrl0 x hx (hrl x hx e hr)
      exact ⟨y, r, ha, hr0, hb.appOther g_of_ofEvents (by omega)⟩
  · obtain ⟨e, he, rfl⟩ := ofEvents_mem hop
    exact .inl (.inr (by simp))

/-- A step of the starter's. -/
theorem TF.main (h : TF κ j B grp Rd d0 dw a rl t) (hk : 1 ≤ κ) (hA : ∀ k l, Rd k l → ¬ ShL grp l) {fn : FuncId} {pos : String} {es : Array Event} (hB : B ≤ B')
    (hev : ∀ e ∈ es, (∀ x, (MemAct.ofEvent e).touch? = some x → (ShL grp x.loc ∧ x.kind ≠ .plain) ∨ (¬ ShL grp x.loc ∧ (x.write = true → ∀ k, 1 ≤ k → k ≤ κ + j - 1 → ¬ Rd k x.loc))) ∧ (∀ a, e.loc ≠ .mark (.release a)) ∧ (MemAct.ofEvent e).low B') :
    TF κ j B' grp Rd (deafBehind d0 es) dw a rl (t ++ MemOp.ofEvents 0 fn pos es) := by
  obtain ⟨i0, hi0, hnr, hrl0⟩ := h.gr
  refine ⟨h.ct.app0 (apart_no hA) fun op hop => ?_, low_all h.low hB fun op hop => ?_, ?_, fun x hx => ?_, ⟨i0, by simp; omega, fun y hy => norel_app (hnr y hy) fun op hop => ?_, fun x hx hr => ?_⟩, over_app h.over fun op hop => ?_⟩
  · obtain ⟨e, he, rfl⟩ := ofEvents_mem hop
    refine ⟨rfl, fun y hy => ?_⟩
    rcases (hev e he).1 y hy with h1 | h1
    · exact .inl h1
    · exact .inr ⟨h1.1, fun _ _ _ x => x.elim, h1.2⟩
  · obtain ⟨e, he, rfl⟩ := ofEvents_mem hop
    exact tlow_of_low (hev e he).2.2
  · rw [Deaf_own, h.deaf0]
  · rw [Deaf_other t (g' := 0) (by omega) _ g_of_ofEvents, h.deafW x hx]
  · obtain ⟨e, he, rfl⟩ := ofEvents_mem hop
    exact fun ee => (hev e he).2.1 y (loc_of_ofEvent ee)
  · obtain ⟨y, r, ha, hr0, hb⟩ := hrl0 x hx hr
    exact ⟨y, r, ha, hr0, hb.appOther (g := 0) g_of_ofEvents (by omega)⟩
  · obtain ⟨e, he, rfl⟩ := ofEvents_mem hop
    exact .inl (.inl rfl)

/-- Operations that touch nothing and say no word: a communication. -/
theorem TF.comm (h : TF κ j B grp Rd d0 dw a rl t) (hk : 1 ≤ κ) (hA : ∀ k l, Rd k l → ¬ ShL grp l) {u : Trace} (hB : B ≤ B') (hg : ∀ op ∈ u, op.g ≤ κ + j - 1) (hn : ∀ op ∈ u, op.act.touch? = none)
    (hs : ∀ op ∈ u, op.act ≠ .mark .disable ∧ op.act ≠ .mark .enable ∧ ∀ x, op.act ≠ .mark (.release x)) : TF κ j B' grp Rd d0 dw a rl (t ++ u) := by
  obtain ⟨i0, hi0, hnr, hrl0⟩ := h.gr
  have nt : ∀ op ∈ u, ∀ b, op.act.touch? = some b → False := fun op hop b hb => by rw [hn op hop] at hb; cases hb
  refine ⟨⟨h.ct.quiet.app fun op hop x hx _ => (nt op hop x hx).elim, fun _ _ _ _ x => x.elim, fun k k1 kj l hl => (h.ct.rd k k1 kj l hl).app fun op hop b hb _ _ => (nt op hop b hb).elim, fun l hs hl => (h.ct.free l hs hl).app fun op hop b hb _ => (nt op hop b hb).elim,
      fun l hs hl => (h.ct.mine l hs hl).app fun op hop b hb _ _ => (nt op hop b hb).elim, fun said => noRace_appendMute (h.ct.nr said) hn, fun i op hi => ?_⟩, low_all h.low hB fun op hop => tlow_of_none (hn op hop), ?_, fun x hx => ?_, ⟨i0, by simp; omega, fun y hy => norel_app (hnr y hy) fun op hop => (hs op hop).2.2 y, fun x hx hr => ?_⟩, over_app h.over fun op hop => .inr (hn op hop)⟩
  · rcases getElem?_append_cases hi with ⟨_, hi'⟩ | ⟨_, hu⟩
    · exact h.ct.gs i op hi'
    · exact hg op hu
  · rw [Deaf_still t 0 u fun op hop => ⟨(hs op hop).1, (hs op hop).2.1⟩, h.deaf0]
  · rw [Deaf_still t _ u fun op hop => ⟨(hs op hop).1, (hs op hop).2.1⟩, h.deafW x hx]
  · obtain ⟨y, r, ha, hr0, hb⟩ := hrl0 x hx hr
    refine ⟨y, r, ha, hr0, hb.app fun i hi hgi hc => ?_⟩
    obtain ⟨b, hb', _⟩ := hc
    obtain ⟨op, hop, hob⟩ := touch_of hb'
    rcases getElem?_append_cases hop with ⟨hlt, _⟩ | ⟨_, hu⟩
    · omega
    · exact nt op hu b hob

/-- A leaver's mute words. -/
theorem TF.mute (h : TF κ j B grp Rd d0 dw a rl t) (hA : ∀ k l, Rd k l → ¬ ShL grp l) {g : Nat} (hg : 1 ≤ g) (hgκ : g < κ) {fn : FuncId} {pos : String} {es : Array Event} (hm : ∀ e ∈ es, e.mute = true) : TF κ j B grp Rd d0 dw a rl (t ++ MemOp.ofEvents g fn pos es) := by
  obtain ⟨i0, hi0, hnr, hrl0⟩ := h.gr
  have nt : ∀ op ∈ MemOp.ofEvents g fn pos es, op.act.touch? = none := fun op hop => by obtain ⟨e, he, rfl⟩ := ofEvents_mem hop; exact touch_mute (hm e he)
  have nt' : ∀ op ∈ MemOp.ofEvents g fn pos es, ∀ b, op.act.touch? = some b → False := fun op hop b hb => by rw [nt op hop] at hb; cases hb
  refine ⟨⟨h.ct.quiet.app fun op hop x hx _ => (nt' op hop x hx).elim, fun _ _ _ _ x => x.elim, fun k k1 kj l hl => (h.ct.rd k k1 kj l hl).app fun op hop b hb _ _ => (nt' op hop b hb).elim, fun l hs hl => (h.ct.free l hs hl).app fun op hop b hb _ => (nt' op hop b hb).elim,
      fun l hs hl => (h.ct.mine l hs hl).app fun op hop b hb _ _ => (nt' op hop b hb).elim, fun said => noRace_appendMute (h.ct.nr said) nt, fun i op hi => ?_⟩, low_all h.low (Nat.le_refl _) fun op hop => tlow_of_none (nt op hop), ?_, fun x hx => ?_, ⟨i0, by simp; omega, fun y hy => norel_app (hnr y hy) fun op hop => ?_, fun x hx hr => ?_⟩, over_app h.over fun op hop => .inr (nt op hop)⟩
  · rcases getElem?_append_cases hi with ⟨_, hi'⟩ | ⟨_, hu⟩
    · exact h.ct.gs i op hi'
    · obtain ⟨e, _, rfl⟩ := ofEvents_mem hu; simp; omega
  · rw [Deaf_other t (by omega) _ g_of_ofEvents, h.deaf0]
  · rw [Deaf_other t (by omega) _ g_of_ofEvents, h.deafW x hx]
  · obtain ⟨e, he, rfl⟩ := ofEvents_mem hop
    rcases mute_act (hm e he) with x | x <;> (simp only [x]; simp)
  · obtain ⟨y, r, ha, hr0, hb⟩ := hrl0 x hx hr
    exact ⟨y, r, ha, hr0, hb.appOther g_of_ofEvents (by omega)⟩

/-- A go statement: worker number j is started; what it reads the starter knows. -/
theorem TF.fork (h : TF κ j B grp Rd 0 dw a rl t) (hk : 1 ≤ κ) (hA : ∀ k l, Rd k l → ¬ ShL grp l) {x y : MemOp} (hx : x.g = 0 ∧ x.act = .go (κ + j)) (hy : y.g = κ + j ∧ y.act = .start) {rl' : Nat → Prop} (hrl : ∀ i, i < j → rl' i → rl i) (hj : ¬ rl' j) :
    TF κ (j + 1) B grp Rd 0 (upd dw j 0) a rl' (t ++ #[x, y]) := by
  obtain ⟨i0, hi0, hnr, hrl0⟩ := h.gr
  have hm : ∀ op ∈ #[x, y], op = x ∨ op = y := by intro op hop; simpa using hop
  have hst : ∀ op ∈ #[x, y], op.act ≠ .mark .disable ∧ op.act ≠ .mark .enable := by
    intro op hop
    rcases hm op hop with rfl | rfl
    · rw [hx.2]; exact ⟨by simp, by simp⟩
    · rw [hy.2]; exact ⟨by simp, by simp⟩
  have e1 : κ + j - 1 + 1 = κ + j := by omega
  have hct := h.ct.fork (apart_no hA) (x := x) (y := y) (by rw [e1]; exact hx) (by rw [e1]; exact hy) h.deaf0
  rw [e1] at hct
  refine ⟨hct, low_all h.low (Nat.le_refl _) fun op hop => ?_, by rw [Deaf_still t 0 _ hst, h.deaf0], fun i hi => ?_, ⟨i0, by simp; omega, fun z hz => norel_app (hnr z hz) fun op hop => ?_, fun i hi hr => ?_⟩, over_app h.over fun op hop => ?_⟩
  · rcases hm op hop with rfl | rfl
    · rw [hx.2]; exact tlow_of_none rfl
    · rw [hy.2]; exact tlow_of_none rfl
  · rw [Deaf_still t _ _ hst]
    rcases Nat.lt_or_ge i j with hlt | hge
    · rw [h.deafW i hlt, upd_ne dw _ (by omega)]
    · obtain rfl : i = j := by omega
      rw [upd_same]
      exact Deaf_absent fun a op ha e => by have := h.ct.gs a op ha; omega
  · rcases hm op hop with rfl | rfl
    · rw [hx.2]; simp
    · rw [hy.2]; simp
  · rcases Nat.lt_or_ge i j with hlt | hge
    · obtain ⟨z, r, ha, hr0, hb⟩ := hrl0 i hlt (hrl i hlt hr)
      refine ⟨z, r, ha, hr0, hb.appNot fun op hop => ?_⟩
      rcases hm op hop with rfl | rfl
      · rw [hx.1]; omega
      · rw [hy.1]; omega
    · obtain rfl : i = j := by omega
      exact absurd hr hj
  · rcases hm op hop with rfl | rfl
    · exact .inr (by rw [hx.2]; rfl)
    · exact .inr (by rw [hy.2]; rfl)

/-- A new block. -/
theorem TF.alloc (h : TF κ j B grp Rd d0 dw a rl t) {grp' : Nat → Prop} {Rd' : Nat → Loc → Prop} (hg : ∀ b, grp b → grp' b) (hg' : ∀ b, grp' b → grp b ∨ B ≤ b)
    (hr : ∀ k l, Rd k l → Rd' k l) (hr' : ∀ k l, Rd' k l → Rd k l ∨ ∃ a, l = .cell a ∧ B ≤ a.block) (hB : B ≤ B') : TF κ j B' grp' Rd' d0 dw a rl t := by
  refine ⟨ct_grow h.ct (fun l hl => ?_) (fun l hl => ?_) hr (fun k l hl => ?_), fun op hop => tlow_mono hB (h.low op hop), h.deaf0, h.deafW, h.gr, h.over⟩
  · cases l <;> simp only [ShL] at hl ⊢ <;> first | exact hg _ hl | exact hl.elim
  · cases l with
    | cell x =>
      simp only [ShL] at hl ⊢
      rcases hg' _ hl with h1 | h1
      · exact .inl h1
      · exact .inr fun i y hy => fresh_of_low h.low h1 i y hy
    | obj r =>
      simp only [ShL] at hl ⊢
      rcases hg' _ hl with h1 | h1
      · exact .inl h1
      · exact .inr fun i y hy => fresh_of_low' h.low h1 i y hy
    | _ => exact hl.elim
  · rcases hr' k l hl with h1 | ⟨x, rfl, h1⟩
    · exact .inl h1
    · exact .inr fun i y hy => fresh_of_low h.low h1 i y hy
end

end Go.Proofs.YtiodikflmijhkaaGreatDoor.Farm
end
