/- Joined texts: N1. -/
import Derived.Control
set_option linter.unusedSectionVars false
set_option linter.unusedVariables false
set_option linter.unusedSimpArgs false
namespace Go.Proofs.YtiodikflmijhkaaGreatDoor.Nmo
open Go

def HaltOk : Halt → Prop
  | .panic _ | .stuck _ => True
  | .unsupported u => ∀ g, u ≠ .initOrder g
  | _ => False
/-- The first N blocks are rows of cells. -/
def Cells (N : Nat) (w : World) : Prop := ∀ b, b < N → ∃ c t f, w.heap[b]? = some (.cells c t f)
def HaltN (N : Nat) : Halt → Prop
  | .panic _ | .stuck _ => True
  | .unsupported u => ∀ g, u = .initOrder g → N ≤ g
  | _ => False
theorem HaltOk.n {N : Nat} {h : Halt} (k : HaltOk h) : HaltN N h := by
  cases h with
  | panic v => trivial
  | stuck s => trivial
  | unsupported u => exact fun g e => absurd e (k g)
  | _ => exact k

/-- A piece of an operation that says no word but 'no room'. -/
def Cl (P : Program) {α : Type} : Sem α → (α → Prop) → Prop
  | .pure a, Φ => Φ a
  | .load _ a k, Φ => ∀ v, Cl P (k v) Φ
  | .store _ a v k, Φ => Cl P k Φ
  | .new o k, Φ => ∀ r, Cl P (k r) Φ
  | .shape _ k, Φ => ∀ s, Cl P (k s) Φ
  | .freeze _ _ _, _ => False
  | .frozen _ k, Φ => ∀ b, Cl P (k b) Φ
  | .getObj r k, Φ => ∀ o, Cl P (k o) Φ
  | .setObj r o k, Φ => o.isChan = false ∧ Cl P k Φ
  | .choose _ k, Φ => ∀ n, Cl P (k n) Φ
  | .sys _ _, _ => False
  | .program k, Φ => Cl P (k P) Φ
  | .mark m k, Φ => m = .noRoom ∧ Cl P k Φ
  | .halt h, _ => HaltOk h

theorem Cl.mono {P : Program} {α : Type} {s : Sem α} {Φ Ψ : α → Prop} (h : Cl P s Φ) (hΦ : ∀ a, Φ a → Ψ a) : Cl P s Ψ := by
  induction s with
  | pure a => exact hΦ a h
  | load m a k ih => exact fun v => ih v (h v)
  | store m a v k ih => exact ih h
  | new o k ih => exact fun r => ih r (h r)
  | shape r k ih => exact fun s => ih s (h s)
  | freeze a n k ih => exact h
  | frozen a k ih => exact fun b => ih b (h b)
  | getObj r k ih => exact fun o => ih o (h o)
  | setObj r o k ih => exact ⟨h.1, ih h.2⟩
  | choose q k ih => exact fun n => ih n (h n)
  | sys c k ih => exact h
  | program k ih => exact ih P h
  | mark m k ih => exact ⟨h.1, ih h.2⟩
  | halt h' => exact h

theorem Cl.sbind {P : Program} {α β : Type} {s : Sem α} {f : α → Sem β} {Φ : α → Prop} {Ψ : β → Prop} (h : Cl P s Φ) (hf : ∀ a, Φ a → Cl P (f a) Ψ) : Cl P (s.bind f) Ψ := by
  induction s with
  | pure a => exact hf a h
  | load m a k ih => exact fun v => ih v (h v)
  | store m a v k ih => exact ih h
  | new o k ih => exact fun r => ih r (h r)
  | shape r k ih => exact fun s => ih s (h s)
  | freeze a n k ih => exact h
  | frozen a k ih => exact fun b => ih b (h b)
  | getObj r k ih => exact fun o => ih o (h o)
  | setObj r o k ih => exact ⟨h.1, ih h.2⟩
  | choose q k ih => exact fun n => ih n (h n)
  | sys c k ih => exact h
  | program k ih => exact ih P h
  | mark m k ih => exact ⟨h.1, ih h.2⟩
  | halt h' => exact h
theorem Cl.bind {P : Program} {α β : Type} {s : Sem α} {f : α → Sem β} {Φ : α → Prop} {Ψ : β → Prop} (h : Cl P s Φ) (hf : ∀ a, Φ a → Cl P (f a) Ψ) : Cl P (s >>= f) Ψ := Cl.sbind h hf
theorem Cl.any {P : Program} {α : Type} {s : Sem α} {Φ : α → Prop} (h : Cl P s Φ) : Cl P s fun _ => True := h.mono fun _ _ => trivial


/-! ### the run -/
def tp (w : World) (T : Nat → Question → Nat) (d : Nat) : World := { w with tape := T, drawn := d }
def rtp {α : Type} (r : Result α) (T : Nat → Question → Nat) (d : Nat) : Result α := match r with | .ok a w => .ok a (tp w T d) | .halt h w => .halt h (tp w T d)
def rw_ {α : Type} : Result α → World | .ok _ w => w | .halt _ w => w

def EvV (B : Nat) (e : Event) : Prop := (∃ a, e.loc = .cell a ∧ a.block < B) ∨ (∃ r, e.loc = .obj r ∧ r < B ∧ (e.write && e.sync) = false) ∨ e.loc = .mark .noRoom
theorem EvV.mono {B B' : Nat} {e : Event} (h : EvV B e) (hB : B ≤ B') : EvV B' e := by
  rcases h with ⟨a, h1, h3⟩ | ⟨r, h1, h3, h4⟩ | h
  · exact .inl ⟨a, h1, Nat.lt_of_lt_of_le h3 hB⟩
  · exact .inr (.inl ⟨r, h1, Nat.lt_of_lt_of_le h3 hB, h4⟩)
  · exact .inr (.inr h)

structure Kept (w w' : World) (m : Nat) : Prop where
  tape : w'.tape = w.tape
  os : w'.os = w.os
  output : w'.output = w.output
  drawn : w'.drawn = w.drawn + m
  size : w.heap.size ≤ w'.heap.size
theorem Kept.refl (w : World) : Kept w w 0 := ⟨rfl, rfl, rfl, rfl, Nat.le_refl _⟩
theorem Kept.trans {a b c : World} {m n : Nat} (h : Kept a b m) (k : Kept b c n) : Kept a c (m + n) :=
  ⟨k.tape.trans h.tape, k.os.trans h.os, k.output.trans h.output, by rw [k.drawn, h.drawn, Nat.add_assoc], Nat.le_trans h.size k.size⟩

/-- What a run shows: on whatever tape that agrees for the m draws to come. -/
structure Ran {α : Type} (N : Nat) (P : Program) (s : Sem α) (w : World) (es : Array Event) (Φ : α → Prop) (r : Result α) (es' : Array Event) (m : Nat) : Prop where
  run : ∀ T d, (∀ i, i < m → T (d + i) = w.tape (w.drawn + i)) → s.runT P (tp w T d) es = (rtp r T (d + m), es')
  kept : Kept w (rw_ r) m
  evs : (∀ e ∈ es, EvV w.heap.size e) → ∀ e ∈ es', EvV (rw_ r).heap.size e
  ok : ∀ a w', r = .ok a w' → Φ a
  cells : Cells N (rw_ r)
  halt : ∀ h w', r = .halt h w' → HaltN N h

theorem evs_push {B : Nat} {es : Array Event} {e : Event} (h : ∀ x ∈ es, EvV B x) (he : EvV B e) : ∀ x ∈ es.push e, EvV B x := by
  intro x hx
  rcases Array.mem_push.1 hx with h1 | rfl
  · exact h x h1
  · exact he
theorem evs_more {B : Nat} {es : Array Event} {l : List Addr} {wr sy : Bool} (h : ∀ x ∈ es, EvV B x) (hl : ∀ a ∈ l, a.block < B) : ∀ x ∈ es ++ l.toArray.map (fun a => (⟨.cell a, wr, sy⟩ : Event)), EvV B x := by
  intro x hx
  rcases Array.mem_append.1 hx with h1 | h1
  · exact h x h1
  · obtain ⟨a, ha, rfl⟩ := Array.mem_map.1 h1
    exact .inl ⟨a, rfl, hl a (by simpa using ha)⟩
theorem Ran.step0 {α : Type} {N : Nat} {P : Program} {s s' : Sem α} {w w' : World} {es es₁ : Array Event} {Φ : α → Prop} {r : Result α} {es' : Array Event} {m : Nat} (h : Ran N P s' w' es₁ Φ r es' m) (hk : Kept w w' 0)
    (hs : ∀ T d, s.runT P (tp w T d) es = s'.runT P (tp w' T d) es₁) (he : (∀ e ∈ es, EvV w.heap.size e) → ∀ e ∈ es₁, EvV w'.heap.size e) : Ran N P s w es Φ r es' m := by
  refine ⟨fun T d ha => ?_, ?_, fun x => h.evs (he x), h.ok, h.cells, h.halt⟩
  · rw [hs T d]
    exact h.run T d fun i hi => by rw [ha i hi, hk.tape, hk.drawn, Nat.add_zero]
  · have := hk.trans h.kept
    rwa [Nat.zero_add] at this
theorem Ran.halted {α : Type} {N : Nat} {P : Program} {s : Sem α} {w : World} {es : Array Event} {Φ : α → Prop} {h : Halt} (hw : Cells N w) (hh : HaltN N h) (hs : ∀ T d, s.runT P (tp w T d) es = (.halt h (tp w T d), es)) : Ran N P s w es Φ (.halt h w) es 0 :=
  ⟨fun T d _ => hs T d, Kept.refl w, fun x => x, fun _ _ e => (by cases e), hw, fun _ _ e => by cases e; exact hh⟩

theorem lt_of_cell {w : World} {a : Addr} {v : Value} (hc : w.cell? a = some v) : a.block < w.heap.size := by
  unfold World.cell? at hc
  split at hc
  · rename_i c t f hb
    exact (Array.getElem?_eq_some_iff.1 hb).1
  · cases hc
theorem bindE {α β : Type} {x : Except String α} {f : α → Except String β} {r : β} (h : x.bind f = .ok r) : ∃ a, x = .ok a ∧ f a = .ok r := by
  cases x with
  | error e => cases h
  | ok a => exact ⟨a, rfl, h⟩
theorem seen_lt {P : Program} {w : World} {at_ : Addr} {u : TypeId} {k : Addr} {b : Bool} {r : Array Value × TypeId × (Nat × Nat) × Nat × Value × List (Nat × Nat × List UInt8)} (h : w.seen P at_ u k b = .ok r) : at_.block < w.heap.size := by
  apply Classical.byContradiction
  intro hn
  have e : w.heap[at_.block]? = none := Array.getElem?_eq_none (Nat.le_of_not_lt hn)
  unfold World.seen at h
  simp only [e, bind, Except.bind, throw, throwThe, MonadExceptOf.throw, pure, Except.pure] at h
  repeat' split at h
  all_goals first
    | cases h
    | (simp at h; done)
    | skip
theorem noCell_halt {N : Nat} {w : World} (hw : Cells N w) (a : Addr) (what : String) : HaltN N (w.noCell a what) := by
  unfold World.noCell
  split
  · rename_i hb
    intro g e
    cases e
    apply Classical.byContradiction
    intro hn
    obtain ⟨c, t, f, hc⟩ := hw a.block (by omega)
    rw [hc] at hb
    cases hb
  · intro g e; cases e
  · trivial
theorem farLoad_halt {N : Nat} {P : Program} {w : World} (hw : Cells N w) {a : Addr} {b : Bool} {h : Halt} (hf : w.farLoad P a b = .error h) : HaltN N h := by
  unfold World.farLoad at hf
  split at hf
  · split at hf
    · cases hf
    · cases hf; intro g e; cases e
  · cases hf; exact noCell_halt hw a _
theorem farStore_halt {N : Nat} {P : Program} {w : World} (hw : Cells N w) {a : Addr} {v : Value} {b : Bool} {h : Halt} (hf : w.farStore P a v b = .error h) : HaltN N h := by
  unfold World.farStore at hf
  split at hf
  · split at hf
    · cases hf
    · cases hf; intro g e; cases e
  · cases hf; exact noCell_halt hw a _
theorem cells_setCell {N : Nat} {w : World} (hw : Cells N w) (a : Addr) (v : Value) : Cells N (w.setCell a v) := fun b hb => by
  obtain ⟨c, t, f, hc⟩ := hw b hb
  by_cases e : a.block = b
  · subst e
    simp only [World.setCell, Array.getElem?_modify, hc, if_true, Option.map_some]
    exact ⟨_, _, _, rfl⟩
  · simp only [World.setCell, Array.getElem?_modify, hc, if_neg e]
    exact ⟨_, _, _, rfl⟩
theorem cells_push {N : Nat} {w : World} (hw : Cells N w) (o : Obj) : Cells N { w with heap := w.heap.push o } := fun b hb => by
  obtain ⟨c, t, f, hc⟩ := hw b hb
  have hl := (Array.getElem?_eq_some_iff.1 hc).1
  refine ⟨c, t, f, ?_⟩
  show (w.heap.push o)[b]? = _
  rw [Array.getElem?_push, if_neg (by omega)]
  exact hc
theorem cells_set {N : Nat} {w : World} (hw : Cells N w) {r : Nat} {o : Obj} (h : N ≤ r ∨ ∃ c t f, o = .cells c t f) : Cells N { w with heap := w.heap.setIfInBounds r o } := fun b hb => by
  obtain ⟨c, t, f, hc⟩ := hw b hb
  have hl := (Array.getElem?_eq_some_iff.1 hc).1
  by_cases e : r = b
  · subst e
    obtain ⟨c', t', f', rfl⟩ := h.resolve_left (by omega)
    exact ⟨c', t', f', by show (w.heap.setIfInBounds r _)[r]? = _; simp [hl]⟩
  · exact ⟨c, t, f, by show (w.heap.setIfInBounds r _)[b]? = _; rw [Array.getElem?_setIfInBounds_ne e]; exact hc⟩
theorem farLoad_lt {P : Program} {w : World} {a : Addr} {b : Bool} {v : Value} {l : List Addr} (h : w.farLoad P a b = .ok (v, l)) : ∀ x ∈ l, x.block < w.heap.size := by
  unfold World.farLoad at h
  split at h
  · rename_i at_ u hb
    split at h
    · rename_i r hr
      cases h
      unfold World.viewLoad at hr
      obtain ⟨q, hq, hr⟩ := bindE hr
      obtain ⟨q1, q2, q3, q4, q5, q6⟩ := q
      have hlt := seen_lt hq
      simp only at hr
      split at hr
      · cases hr
        intro x hx
        obtain ⟨y, _, rfl⟩ := List.mem_map.1 hx
        exact hlt
      · cases hr
    · cases h
  · cases h
theorem viewStore_at {P : Program} {w : World} {at_ : Addr} {u : TypeId} {k : Addr} {v : Value} {b : Bool} (T : Nat → Question → Nat) (d : Nat) :
    (tp w T d).viewStore P at_ u k v b = match w.viewStore P at_ u k v b with | .ok (w', l) => .ok (tp w' T d, l) | .error h => .error h := by
  unfold World.viewStore
  have hs : (tp w T d).seen P at_ u k b = w.seen P at_ u k b := rfl
  rw [hs]
  cases w.seen P at_ u k b with
  | error e =>
    simp only [bind, Except.bind, throw, throwThe, MonadExceptOf.throw, pure, Except.pure]
    repeat' split
    all_goals first | rfl | simp_all
  | ok q =>
    obtain ⟨q1, q2, q3, q4, q5, q6⟩ := q
    simp only [bind, Except.bind, throw, throwThe, MonadExceptOf.throw, pure, Except.pure]
    by_cases ht : tight P P.depth u = true
    · simp only [ht, Bool.not_true, Bool.false_eq_true, if_false]
      cases hb : v.bytes? with
      | none => rfl
      | some bytes =>
        simp only
        by_cases hl : some bytes.length ≠ Option.map (fun x => x.length) q5.bytes?
        · simp only [if_pos hl]
          rfl
        · simp only [if_neg hl]
          split
          · rename_i hq
            simp only [hq]
          · rename_i hq
            simp only [hq]
            rfl
    · simp only [ht, Bool.not_false, if_true]
      rfl
theorem viewStore_lt {P : Program} {w w' : World} {at_ : Addr} {u : TypeId} {k : Addr} {v : Value} {b : Bool} {l : List Addr} (h : w.viewStore P at_ u k v b = .ok (w', l)) : Kept w w' 0 ∧ (∀ x ∈ l, x.block < w.heap.size) ∧ ∀ N, Cells N w → Cells N w' := by
  unfold World.viewStore at h
  cases hq : w.seen P at_ u k b with
  | error e =>
    rw [hq] at h
    simp only [bind, Except.bind, throw, throwThe, MonadExceptOf.throw, pure, Except.pure] at h
    repeat' split at h
    all_goals cases h
  | ok q =>
    have hlt := seen_lt hq
    obtain ⟨q1, q2, q3, q4, q5, q6⟩ := q
    rw [hq] at h
    simp only [bind, Except.bind, throw, throwThe, MonadExceptOf.throw, pure, Except.pure] at h
    repeat' split at h
    all_goals first
      | cases h; done
      | (cases h
         refine ⟨⟨rfl, rfl, rfl, rfl, by simp⟩, fun x hx => ?_, fun N hN => cells_set hN (.inr ⟨_, _, _, rfl⟩)⟩
         obtain ⟨y, _, rfl⟩ := List.mem_map.1 hx
         exact hlt)
theorem farStore_at {P : Program} {w : World} {a : Addr} {v : Value} {b : Bool} (T : Nat → Question → Nat) (d : Nat) :
    (tp w T d).farStore P a v b = match w.farStore P a v b with | .ok (w', l) => .ok (tp w' T d, l) | .error h => .error h := by
  unfold World.farStore
  show (match w.heap[a.block]? with | some (.view at_ u) => _ | _ => _) = _
  cases hb : w.heap[a.block]? with
  | none => simp only [hb]; rfl
  | some o =>
    cases o with
    | view at_ u =>
      simp only [hb, viewStore_at]
      cases w.viewStore P at_ u a v b with
      | error e => rfl
      | ok q => rfl
    | _ => simp only [hb]; rfl
theorem farStore_lt {P : Program} {w w' : World} {a : Addr} {v : Value} {b : Bool} {l : List Addr} (h : w.farStore P a v b = .ok (w', l)) : Kept w w' 0 ∧ (∀ x ∈ l, x.block < w.heap.size) ∧ ∀ N, Cells N w → Cells N w' := by
  unfold World.farStore at h
  split at h
  · split at h
    · rename_i r hr
      cases h
      exact viewStore_lt hr
    · cases h
  · cases h

/-- ████ THE RUN OF A PIECE THAT SAYS NO WORD. ████ -/
theorem Cl.runs {N : Nat} {P : Program} {α : Type} {Φ : α → Prop} (s : Sem α) : ∀ (w : World) (es : Array Event), Cl P s Φ → Cells N w → ∃ r es' m, Ran N P s w es Φ r es' m := by
  induction s with
  | pure a => exact fun w es h hw => ⟨.ok a w, es, 0, fun T d _ => rfl, Kept.refl w, fun x => x, (fun _ _ e => by cases e; exact h), hw, fun _ _ e => by cases e⟩
  | load m a k ih =>
    intro w es h hw
    cases hc : w.cell? a with
    | some v =>
      obtain ⟨r, es', n, hr⟩ := ih v w (es.push ⟨.cell a, false, m == .atomic⟩) (h v) hw
      refine ⟨r, es', n, hr.step0 (Kept.refl w) (fun T d => ?_) fun he => evs_push he (.inl ⟨a, rfl, lt_of_cell hc⟩)⟩
      simp only [Sem.runT, show (tp w T d).cell? a = some v from hc]
    | none =>
      cases hf : w.farLoad P a (m == .atomic) with
      | ok q =>
        obtain ⟨v, l⟩ := q
        obtain ⟨r, es', n, hr⟩ := ih v w (es ++ l.toArray.map (⟨.cell ·, false, m == .atomic⟩)) (h v) hw
        refine ⟨r, es', n, hr.step0 (Kept.refl w) (fun T d => ?_) fun he => evs_more he (farLoad_lt hf)⟩
        simp only [Sem.runT, show (tp w T d).cell? a = none from hc, show (tp w T d).farLoad P a (m == .atomic) = _ from hf]
      | error e =>
        refine ⟨_, _, 0, Ran.halted (h := e) hw (farLoad_halt hw hf) fun T d => ?_⟩
        simp only [Sem.runT, show (tp w T d).cell? a = none from hc, show (tp w T d).farLoad P a (m == .atomic) = _ from hf]
  | store m a v k ih =>
    intro w es h hw
    by_cases hag : (∃ cs, v = .agg cs) ∨ ∃ cs, v = .tuple cs
    · refine ⟨_, _, 0, Ran.halted (h := .stuck "store: not the value of one cell") hw trivial fun T d => ?_⟩
      rcases hag with ⟨cs, rfl⟩ | ⟨cs, rfl⟩ <;> rfl
    · have hst : ∀ w' : World, (Sem.store m a v k).runT P w' es = match w'.cell? a with
          | some _ => if w'.frozen? a then (.halt (.unsupported (.unsafePointer "a write to bytes that a string shares")) w', es) else k.runT P (w'.setCell a v) (es.push ⟨.cell a, true, m == .atomic⟩)
          | none => match w'.farStore P a v (m == .atomic) with
            | .ok (w, touched) => k.runT P w (es ++ touched.toArray.map (⟨.cell ·, true, m == .atomic⟩))
            | .error h => (.halt h w', es) := fun w' => by
        cases v <;> first | rfl | exact absurd (.inl ⟨_, rfl⟩) hag | exact absurd (.inr ⟨_, rfl⟩) hag
      cases hc : w.cell? a with
      | some u =>
        have hlt := lt_of_cell hc
        cases hf : w.frozen? a with
        | true =>
          refine ⟨_, _, 0, Ran.halted (h := .unsupported (.unsafePointer "a write to bytes that a string shares")) hw (fun g e => by cases e) fun T d => ?_⟩
          rw [hst]
          simp only [show (tp w T d).cell? a = some u from hc, show (tp w T d).frozen? a = true from hf, if_true]
        | false =>
          have hk : Kept w (w.setCell a v) 0 := ⟨rfl, rfl, rfl, rfl, by simp [World.setCell]⟩
          obtain ⟨r, es', n, hr⟩ := ih (w.setCell a v) (es.push ⟨.cell a, true, m == .atomic⟩) h (cells_setCell hw a v)
          refine ⟨r, es', n, hr.step0 hk (fun T d => ?_) fun he => evs_push (fun x hx => (he x hx).mono hk.size) (.inl ⟨a, rfl, Nat.lt_of_lt_of_le hlt hk.size⟩)⟩
          rw [hst]
          simp only [show (tp w T d).cell? a = some u from hc, show (tp w T d).frozen? a = false from hf]
          rfl
      | none =>
        cases hf : w.farStore P a v (m == .atomic) with
        | ok q =>
          obtain ⟨w1, l⟩ := q
          obtain ⟨hk, hl, hcl⟩ := farStore_lt hf
          obtain ⟨r, es', n, hr⟩ := ih w1 (es ++ l.toArray.map (⟨.cell ·, true, m == .atomic⟩)) h (hcl N hw)
          refine ⟨r, es', n, hr.step0 hk (fun T d => ?_) fun he => evs_more (fun x hx => (he x hx).mono hk.size) fun x hx => Nat.lt_of_lt_of_le (hl x hx) hk.size⟩
          rw [hst]
          simp only [show (tp w T d).cell? a = none from hc, farStore_at, hf]
        | error e =>
          refine ⟨_, _, 0, Ran.halted (h := e) hw (farStore_halt hw hf) fun T d => ?_⟩
          rw [hst]
          simp only [show (tp w T d).cell? a = none from hc, farStore_at, hf]
  | new o k ih =>
    intro w es h hw
    have hk : Kept w { w with heap := w.heap.push o } 0 := ⟨rfl, rfl, rfl, rfl, by simp⟩
    obtain ⟨r, es', n, hr⟩ := ih w.heap.size _ es (h _) (cells_push hw o)
    exact ⟨r, es', n, hr.step0 hk (fun T d => rfl) fun he x hx => (he x hx).mono hk.size⟩
  | shape r k ih =>
    intro w es h hw
    obtain ⟨r', es', n, hr⟩ := ih (w.shape? r) w es (h _) hw
    exact ⟨r', es', n, hr.step0 (Kept.refl w) (fun T d => rfl) fun x => x⟩
  | freeze a n k ih => intro w es h; exact h.elim
  | frozen a k ih =>
    intro w es h hw
    obtain ⟨r', es', n, hr⟩ := ih (w.frozen? a) w es (h _) hw
    exact ⟨r', es', n, hr.step0 (Kept.refl w) (fun T d => rfl) fun x => x⟩
  | getObj r k ih =>
    intro w es h hw
    cases hb : w.heap[r]? with
    | none =>
      refine ⟨_, _, 0, Ran.halted (h := .stuck "getObj: no such block") hw trivial fun T d => ?_⟩
      simp only [Sem.runT, show (tp w T d).heap[r]? = none from hb]
    | some o =>
      by_cases hcl : ∃ c t f, o = .cells c t f
      · obtain ⟨c, t, f, rfl⟩ := hcl
        refine ⟨_, _, 0, Ran.halted (h := .stuck "getObj: a row of cells") hw trivial fun T d => ?_⟩
        simp only [Sem.runT, show (tp w T d).heap[r]? = _ from hb]
      · obtain ⟨r', es', n, hr⟩ := ih o w (es.push ⟨.obj r, false, o.isChan⟩) (h o) hw
        refine ⟨r', es', n, hr.step0 (Kept.refl w) (fun T d => ?_) fun he => evs_push he (.inr (.inl ⟨r, rfl, (Array.getElem?_eq_some_iff.1 hb).1, rfl⟩))⟩
        simp only [Sem.runT, show (tp w T d).heap[r]? = _ from hb]
        cases o <;> first | rfl | exact absurd ⟨_, _, _, rfl⟩ hcl
  | setObj r o k ih =>
    intro w es h hw
    cases hb : w.heap[r]? with
    | none =>
      refine ⟨_, _, 0, Ran.halted (h := .stuck "setObj: no such block") hw trivial fun T d => ?_⟩
      simp only [Sem.runT, show (tp w T d).heap[r]? = none from hb]
    | some o' =>
      by_cases hcl : ∃ c t f, o' = .cells c t f
      · obtain ⟨c, t, f, rfl⟩ := hcl
        refine ⟨_, _, 0, Ran.halted (h := .stuck "setObj: a row of cells") hw trivial fun T d => ?_⟩
        simp only [Sem.runT, show (tp w T d).heap[r]? = _ from hb]
      · have hk : Kept w { w with heap := w.heap.setIfInBounds r o } 0 := ⟨rfl, rfl, rfl, rfl, by simp⟩
        obtain ⟨r', es', n, hr⟩ := ih _ (es.push ⟨.obj r, true, o.isChan⟩) h.2 (cells_set hw (.inl (Nat.le_of_not_lt fun hlt => by obtain ⟨c, t, f, hc⟩ := hw r hlt; rw [hc] at hb; cases hb; exact hcl ⟨_, _, _, rfl⟩)))
        refine ⟨r', es', n, hr.step0 hk (fun T d => ?_) fun he => evs_push (fun x hx => (he x hx).mono hk.size) (.inr (.inl ⟨r, rfl, Nat.lt_of_lt_of_le (Array.getElem?_eq_some_iff.1 hb).1 hk.size, by simp [h.1]⟩))⟩
        simp only [Sem.runT, show (tp w T d).heap[r]? = _ from hb]
        cases o' <;> first | rfl | exact absurd ⟨_, _, _, rfl⟩ hcl
  | choose q k ih =>
    intro w es h hw
    cases hf : q.forced with
    | true =>
      obtain ⟨r', es', n, hr⟩ := ih 0 w es (h _) hw
      refine ⟨r', es', n, hr.step0 (Kept.refl w) (fun T d => ?_) fun x => x⟩
      simp only [Sem.runT, hf, if_true]
    | false =>
      obtain ⟨r', es', n, hr⟩ := ih (q.cut (w.tape w.drawn q)) { w with drawn := w.drawn + 1 } es (h _) hw
      refine ⟨r', es', n + 1, fun T d ha => ?_, ⟨hr.kept.tape, hr.kept.os, hr.kept.output, by rw [hr.kept.drawn]; show w.drawn + 1 + n = _; omega, hr.kept.size⟩, hr.evs, hr.ok, hr.cells, hr.halt⟩
      have h0 : T d = w.tape w.drawn := by simpa using ha 0 (Nat.succ_pos _)
      have := hr.run T (d + 1) fun i hi => by rw [show d + 1 + i = d + (i + 1) by omega, ha (i + 1) (by omega)]; show _ = w.tape (w.drawn + 1 + i); rw [show w.drawn + 1 + i = w.drawn + (i + 1) by omega]
      rw [show d + 1 + n = d + (n + 1) by omega] at this
      simp only [Sem.runT, hf]
      show (k (q.cut (T d q))).runT P (tp w T (d + 1)) es = _
      rw [h0]
      exact this
  | sys c k ih => intro w es h; exact h.elim
  | program k ih =>
    intro w es h hw
    obtain ⟨r', es', n, hr⟩ := ih P w es h hw
    exact ⟨r', es', n, hr.step0 (Kept.refl w) (fun T d => rfl) fun x => x⟩
  | mark m k ih =>
    intro w es h hw
    obtain ⟨h1, h2⟩ := h
    subst h1
    obtain ⟨r', es', n, hr⟩ := ih w (es.push ⟨.mark .noRoom, false, true⟩) h2 hw
    exact ⟨r', es', n, hr.step0 (Kept.refl w) (fun T d => rfl) fun he => evs_push he (.inr (.inr rfl))⟩
  | halt h' => exact fun w es h hw => ⟨_, _, 0, Ran.halted hw h.n fun T d => rfl⟩
end Go.Proofs.YtiodikflmijhkaaGreatDoor.Nmo
