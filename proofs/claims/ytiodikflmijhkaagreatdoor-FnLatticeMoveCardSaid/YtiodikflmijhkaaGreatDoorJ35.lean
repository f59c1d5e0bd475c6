/- Joined texts: V1 V2. -/
import Derived.Control
import Derived.Conc.Own
import Derived.Conc.Listed
section
namespace Go.Proofs.YtiodikflmijhkaaGreatDoor.Vow
open Go

/-- The forbidden blocks; the functions that may be entered. -/
structure Scope where
  D : Nat → Prop
  F : FuncId → Prop
  C : Code → Prop

def FnOk (S : Scope) : Fn → Prop
  | .func f => S.F f
  | .yield l => ¬ S.D l
  | _ => False

inductive Ok (S : Scope) : Value → Prop
  | bool (b : Bool) : Ok S (.bool b)
  | int (k : IntKind) (n : Int) : Ok S (.int k n)
  | string (s : ByteArray) : Ok S (.string s)
  | pointer (a : Option Addr) (h : ∀ x, a = some x → ¬ S.D x.block) : Ok S (.pointer a)
  | slice (a : Option Addr) (l c : Nat) (h : ∀ x, a = some x → ¬ S.D x.block) : Ok S (.slice a l c)
  | func (fn : Fn) (a b : Array Value) (h : FnOk S fn) (ha : ∀ v ∈ a, Ok S v) (hb : ∀ v ∈ b, Ok S v) : Ok S (.func fn a b)
  | nilFunc : Ok S .nilFunc
  | nilIface : Ok S .nilIface
  | iface (t : TypeId) (v : Value) (h : Ok S v) : Ok S (.iface t v)
  | agg (cs : Array Value) (h : ∀ v ∈ cs, Ok S v) : Ok S (.agg cs)
  | tuple (vs : Array Value) (h : ∀ v ∈ vs, Ok S v) : Ok S (.tuple vs)

section
variable {S : Scope}
theorem ok_pointer {a : Addr} : Ok S (.pointer (some a)) ↔ ¬ S.D a.block := ⟨fun h => by cases h with | pointer _ h => exact h a rfl, fun h => .pointer _ fun x e => by cases e; exact h⟩
theorem ok_slice {a : Addr} {l c : Nat} : Ok S (.slice (some a) l c) ↔ ¬ S.D a.block := ⟨fun h => by cases h with | slice _ _ _ h => exact h a rfl, fun h => .slice _ _ _ fun x e => by cases e; exact h⟩
theorem ok_nilptr : Ok S (.pointer none) := .pointer _ fun _ e => by cases e
theorem ok_nilslice {l c : Nat} : Ok S (.slice none l c) := .slice _ _ _ fun _ e => by cases e
theorem ok_agg {cs : Array Value} : Ok S (.agg cs) ↔ ∀ v ∈ cs, Ok S v := ⟨fun h => by cases h with | agg _ h => exact h, .agg _⟩
theorem ok_tuple {cs : Array Value} : Ok S (.tuple cs) ↔ ∀ v ∈ cs, Ok S v := ⟨fun h => by cases h with | tuple _ h => exact h, .tuple _⟩
theorem ok_undef : Ok S (.tuple #[]) := .tuple _ fun _ h => by simp at h
theorem ok_cells {v : Value} (h : Ok S v) : ∀ c ∈ v.cells, Ok S c := by
  cases h with
  | agg cs h => exact h
  | _ => intro c hc; simp only [Value.cells] at hc; simp at hc; subst hc; constructor <;> assumption

def OkObj (S : Scope) : Obj → Prop
  | .cells c _ _ => ∀ v ∈ c, Ok S v
  | .number a _ => ¬ S.D a.block
  | .loop l => S.F l.fn ∧ (∀ v ∈ l.tmps, Ok S v) ∧ S.C l.assign ∧ S.C l.body ∧ (∀ c, l.pending = some c → S.C c) ∧ ¬ S.D l.defers
  | .deferred ds => ∀ l, ds = some l → l = []
  | _ => False

def HaltOk : Halt → Prop
  | .panic _ | .stuck _ => True
  | .unsupported u => ∀ g, u ≠ .initOrder g
  | _ => False

/-- A piece of an operation that is given such values alone: it touches such blocks alone, makes such values alone. -/
def Cl (S : Scope) (P : Program) {α : Type} : Sem α → (α → Prop) → Prop
  | .pure a, Φ => Φ a
  | .load _ a k, Φ => ¬ S.D a.block ∧ ∀ v, Ok S v → Cl S P (k v) Φ
  | .store _ a v k, Φ => ¬ S.D a.block ∧ Ok S v ∧ Cl S P k Φ
  | .new o k, Φ => OkObj S o ∧ ∀ r, ¬ S.D r → Cl S P (k r) Φ
  | .shape _ k, Φ => ∀ s, Cl S P (k s) Φ
  | .freeze _ _ _, _ => False
  | .frozen _ k, Φ => ∀ b, Cl S P (k b) Φ
  | .getObj r k, Φ => ¬ S.D r ∧ ∀ o, OkObj S o → Cl S P (k o) Φ
  | .setObj r o k, Φ => ¬ S.D r ∧ OkObj S o ∧ Cl S P k Φ
  | .choose _ k, Φ => ∀ n, Cl S P (k n) Φ
  | .sys _ _, _ => False
  | .program k, Φ => Cl S P (k P) Φ
  | .mark m k, Φ => m = .noRoom ∧ Cl S P k Φ
  | .halt h, _ => HaltOk h

theorem Cl.mono {P : Program} {α : Type} {s : Sem α} {Φ Ψ : α → Prop} (h : Cl S P s Φ) (hΦ : ∀ a, Φ a → Ψ a) : Cl S P s Ψ := by
  induction s with
  | pure a => exact hΦ a h
  | load m a k ih => exact ⟨h.1, fun v hv => ih v (h.2 v hv)⟩
  | store m a v k ih => exact ⟨h.1, h.2.1, ih h.2.2⟩
  | new o k ih => exact ⟨h.1, fun r hr => ih r (h.2 r hr)⟩
  | shape r k ih => exact fun s => ih s (h s)
  | freeze a n k ih => exact h
  | frozen a k ih => exact fun b => ih b (h b)
  | getObj r k ih => exact ⟨h.1, fun o ho => ih o (h.2 o ho)⟩
  | setObj r o k ih => exact ⟨h.1, h.2.1, ih h.2.2⟩
  | choose q k ih => exact fun n => ih n (h n)
  | sys c k ih => exact h
  | program k ih => exact ih P h
  | mark m k ih => exact ⟨h.1, ih h.2⟩
  | halt h' => exact h

theorem Cl.sbind {P : Program} {α β : Type} {s : Sem α} {f : α → Sem β} {Φ : α → Prop} {Ψ : β → Prop} (h : Cl S P s Φ) (hf : ∀ a, Φ a → Cl S P (f a) Ψ) : Cl S P (s.bind f) Ψ := by
  induction s with
  | pure a => exact hf a h
  | load m a k ih => exact ⟨h.1, fun v hv => ih v (h.2 v hv)⟩
  | store m a v k ih => exact ⟨h.1, h.2.1, ih h.2.2⟩
  | new o k ih => exact ⟨h.1, fun r hr => ih r (h.2 r hr)⟩
  | shape r k ih => exact fun s => ih s (h s)
  | freeze a n k ih => exact h
  | frozen a k ih => exact fun b => ih b (h b)
  | getObj r k ih => exact ⟨h.1, fun o ho => ih o (h.2 o ho)⟩
  | setObj r o k ih => exact ⟨h.1, h.2.1, ih h.2.2⟩
  | choose q k ih => exact fun n => ih n (h n)
  | sys c k ih => exact h
  | program k ih => exact ih P h
  | mark m k ih => exact ⟨h.1, ih h.2⟩
  | halt h' => exact h
theorem Cl.bind {P : Program} {α β : Type} {s : Sem α} {f : α → Sem β} {Φ : α → Prop} {Ψ : β → Prop} (h : Cl S P s Φ) (hf : ∀ a, Φ a → Cl S P (f a) Ψ) : Cl S P (s >>= f) Ψ := Cl.sbind h hf
theorem Cl.any {P : Program} {α : Type} {s : Sem α} {Φ : α → Prop} (h : Cl S P s Φ) : Cl S P s fun _ => True := h.mono fun _ _ => trivial

/-! ### the run -/
def tp (w : World) (T : Nat → Question → Nat) (d : Nat) : World := { w with tape := T, drawn := d }
def rtp {α : Type} (r : Result α) (T : Nat → Question → Nat) (d : Nat) : Result α := match r with | .ok a w => .ok a (tp w T d) | .halt h w => .halt h (tp w T d)
def rw_ {α : Type} : Result α → World | .ok _ w => w | .halt _ w => w

structure HeapOk (S : Scope) (w : World) : Prop where
  low : ∀ b, S.D b → b < w.heap.size
  obj : ∀ (b : Nat) (o : Obj), w.heap[b]? = some o → ¬ S.D b → OkObj S o

def EvV (S : Scope) (B : Nat) (e : Event) : Prop :=
  (∃ a, e.loc = .cell a ∧ ¬ S.D a.block ∧ a.block < B) ∨ (∃ r, e.loc = .obj r ∧ ¬ S.D r ∧ r < B ∧ e.sync = false) ∨ e.loc = .mark .noRoom
theorem EvV.mono {B B' : Nat} {e : Event} (h : EvV S B e) (hB : B ≤ B') : EvV S B' e := by
  rcases h with ⟨a, h1, h2, h3⟩ | ⟨r, h1, h2, h3, h4⟩ | h
  · exact .inl ⟨a, h1, h2, Nat.lt_of_lt_of_le h3 hB⟩
  · exact .inr (.inl ⟨r, h1, h2, Nat.lt_of_lt_of_le h3 hB, h4⟩)
  · exact .inr (.inr h)

structure Kept (S : Scope) (w w' : World) (m : Nat) : Prop where
  tape : w'.tape = w.tape
  os : w'.os = w.os
  output : w'.output = w.output
  drawn : w'.drawn = w.drawn + m
  size : w.heap.size ≤ w'.heap.size
  keep : ∀ b, S.D b → w'.heap[b]? = w.heap[b]?

theorem Kept.refl (w : World) : Kept S w w 0 := ⟨rfl, rfl, rfl, rfl, Nat.le_refl _, fun _ _ => rfl⟩
theorem Kept.trans {a b c : World} {m n : Nat} (h : Kept S a b m) (k : Kept S b c n) : Kept S a c (m + n) :=
  ⟨k.tape.trans h.tape, k.os.trans h.os, k.output.trans h.output, by rw [k.drawn, h.drawn, Nat.add_assoc], Nat.le_trans h.size k.size, fun x hx => (k.keep x hx).trans (h.keep x hx)⟩

/-- What a run shows: on whatever tape that agrees for the m draws to come. -/
structure Ran {α : Type} (S : Scope) (P : Program) (s : Sem α) (w : World) (es : Array Event) (Φ : α → Prop) (r : Result α) (es' : Array Event) (m : Nat) : Prop where
  run : ∀ T d, (∀ i, i < m → T (d + i) = w.tape (w.drawn + i)) → s.runT P (tp w T d) es = (rtp r T (d + m), es')
  kept : Kept S w (rw_ r) m
  heap : HeapOk S (rw_ r)
  evs : (∀ e ∈ es, EvV S w.heap.size e) → ∀ e ∈ es', EvV S (rw_ r).heap.size e
  ok : ∀ a w', r = .ok a w' → Φ a
  halt : ∀ h w', r = .halt h w' → HaltOk h

theorem HeapOk.cell {w : World} (h : HeapOk S w) {a : Addr} (ha : ¬ S.D a.block) {v : Value} (hc : w.cell? a = some v) : Ok S v ∧ a.block < w.heap.size := by
  unfold World.cell? at hc
  split at hc
  · rename_i c t f hb
    split at hc
    · cases hc
    · exact ⟨h.obj _ _ hb ha v (Array.mem_of_getElem? hc), (Array.getElem?_eq_some_iff.1 hb).1⟩
  · cases hc

theorem noCell_stuck {w : World} (h : HeapOk S w) {a : Addr} (ha : ¬ S.D a.block) (what : String) : w.noCell a what = .stuck what := by
  unfold World.noCell
  split
  · rename_i hb; exact absurd (h.obj _ _ hb ha) id
  · rename_i hb; exact absurd (h.obj _ _ hb ha) id
  · rfl
theorem farLoad_stuck {w : World} (h : HeapOk S w) {a : Addr} (ha : ¬ S.D a.block) (P : Program) (m : Bool) : w.farLoad P a m = .error (.stuck "load: no such cell") := by
  unfold World.farLoad
  split
  · rename_i hb; exact absurd (h.obj _ _ hb ha) id
  · rw [noCell_stuck h ha]
theorem farStore_stuck {w : World} (h : HeapOk S w) {a : Addr} (ha : ¬ S.D a.block) (P : Program) (v : Value) (m : Bool) : w.farStore P a v m = .error (.stuck "store: no such cell") := by
  unfold World.farStore
  split
  · rename_i hb; exact absurd (h.obj _ _ hb ha) id
  · rw [noCell_stuck h ha]

theorem HeapOk.setCell {w : World} (h : HeapOk S w) {a : Addr} (ha : ¬ S.D a.block) {v : Value} (hv : Ok S v) : HeapOk S (w.setCell a v) ∧ Kept S w (w.setCell a v) 0 := by
  refine ⟨⟨fun b hb => by simpa [World.setCell] using h.low b hb, fun b o hb hd => ?_⟩, rfl, rfl, rfl, rfl, by simp [World.setCell], fun b hb => ?_⟩
  · simp only [World.setCell, Array.getElem?_modify] at hb
    split at hb
    · cases hob : w.heap[b]? with
      | none => rw [hob] at hb; cases hb
      | some o' =>
        rw [hob] at hb
        have ho := h.obj b o' hob hd
        cases o' <;> simp only [Option.map_some, Option.some.injEq] at hb <;> subst hb <;> try exact ho
        rename_i c t f
        show ∀ x ∈ _, Ok S x
        split
        · exact ho
        · intro x hx
          rcases Array.mem_or_eq_of_mem_setIfInBounds hx with h1 | rfl
          · exact ho x h1
          · exact hv
    · exact h.obj b o hb hd
  · simp only [World.setCell, Array.getElem?_modify]
    rw [if_neg fun e => ha (by rw [e]; exact hb)]

theorem HeapOk.push {w : World} (h : HeapOk S w) {o : Obj} (ho : OkObj S o) : HeapOk S { w with heap := w.heap.push o } ∧ Kept S w { w with heap := w.heap.push o } 0 ∧ ¬ S.D w.heap.size := by
  have nd : ¬ S.D w.heap.size := fun hd => Nat.lt_irrefl _ (h.low _ hd)
  refine ⟨⟨fun b hb => by simpa using Nat.lt_succ_of_lt (h.low b hb), fun b o' hb hd => ?_⟩, ⟨rfl, rfl, rfl, rfl, by simp, fun b hb => ?_⟩, nd⟩
  · simp only [Array.getElem?_push] at hb
    split at hb
    · cases hb; exact ho
    · exact h.obj b o' hb hd
  · simp only [Array.getElem?_push]
    rw [if_neg fun e : b = w.heap.size => nd (e ▸ hb)]

theorem HeapOk.set {w : World} (h : HeapOk S w) {r : Nat} (hr : ¬ S.D r) {o : Obj} (ho : OkObj S o) : HeapOk S { w with heap := w.heap.setIfInBounds r o } ∧ Kept S w { w with heap := w.heap.setIfInBounds r o } 0 := by
  refine ⟨⟨fun b hb => by simpa using h.low b hb, fun b o' hb hd => ?_⟩, rfl, rfl, rfl, rfl, by simp, fun b hb => ?_⟩
  · simp only [Array.getElem?_setIfInBounds] at hb
    split at hb
    · split at hb
      · cases hb; exact ho
      · cases hb
    · exact h.obj b o' hb hd
  · simp only [Array.getElem?_setIfInBounds]
    rw [if_neg fun e : r = b => hr (e ▸ hb)]

theorem Ran.step0 {α : Type} {P : Program} {s s' : Sem α} {w w' : World} {es es₁ : Array Event} {Φ : α → Prop} {r : Result α} {es' : Array Event} {m : Nat} (h : Ran S P s' w' es₁ Φ r es' m) (hk : Kept S w w' 0)
    (hs : ∀ T d, s.runT P (tp w T d) es = s'.runT P (tp w' T d) es₁) (he : (∀ e ∈ es, EvV S w.heap.size e) → ∀ e ∈ es₁, EvV S w'.heap.size e) : Ran S P s w es Φ r es' m := by
  refine ⟨fun T d ha => ?_, ?_, h.heap, fun x => h.evs (he x), h.ok, h.halt⟩
  · rw [hs T d]
    exact h.run T d fun i hi => by rw [ha i hi, hk.tape, hk.drawn, Nat.add_zero]
  · have := hk.trans h.kept
    rwa [Nat.zero_add] at this

theorem evs_push {B : Nat} {es : Array Event} {e : Event} (h : ∀ x ∈ es, EvV S B x) (he : EvV S B e) : ∀ x ∈ es.push e, EvV S B x := by
  intro x hx
  rcases Array.mem_push.1 hx with h1 | rfl
  · exact h x h1
  · exact he

theorem Ran.halted {α : Type} {P : Program} {s : Sem α} {w : World} {es : Array Event} {Φ : α → Prop} {h : Halt} (hw : HeapOk S w) (hh : HaltOk h) (hs : ∀ T d, s.runT P (tp w T d) es = (.halt h (tp w T d), es)) : Ran S P s w es Φ (.halt h w) es 0 :=
  ⟨fun T d _ => hs T d, Kept.refl w, hw, fun x => x, fun _ _ e => (by cases e), fun _ _ e => by cases e; exact hh⟩

theorem OkObj.notchan {o : Obj} (h : OkObj S o) : o.isChan = false := by cases o <;> first | rfl | exact h.elim

/-- ████ THE RUN OF A PIECE THAT IS GIVEN SUCH VALUES ALONE. ████ -/
theorem Cl.runs {P : Program} {α : Type} {Φ : α → Prop} (s : Sem α) : ∀ (w : World) (es : Array Event), Cl S P s Φ → HeapOk S w → ∃ r es' m, Ran S P s w es Φ r es' m := by
  induction s with
  | pure a => exact fun w es h hw => ⟨.ok a w, es, 0, fun T d _ => rfl, Kept.refl w, hw, fun x => x, fun _ _ e => by cases e; exact h, fun _ _ e => by cases e⟩
  | load m a k ih =>
    intro w es h hw
    cases hc : w.cell? a with
    | some v =>
      have hv := hw.cell h.1 hc
      obtain ⟨r, es', n, hr⟩ := ih v w (es.push ⟨.cell a, false, m == .atomic⟩) (h.2 v hv.1) hw
      refine ⟨r, es', n, hr.step0 (Kept.refl w) (fun T d => ?_) fun he => evs_push he (.inl ⟨a, rfl, h.1, hv.2⟩)⟩
      simp only [Sem.runT, show (tp w T d).cell? a = some v from hc]
    | none =>
      refine ⟨_, _, 0, Ran.halted (h := .stuck "load: no such cell") hw trivial fun T d => ?_⟩
      simp only [Sem.runT, show (tp w T d).cell? a = none from hc, show (tp w T d).farLoad P a (m == .atomic) = _ from farLoad_stuck hw h.1 P _]
  | store m a v k ih =>
    intro w es h hw
    by_cases hag : (∃ cs, v = .agg cs) ∨ ∃ cs, v = .tuple cs
    · refine ⟨_, _, 0, Ran.halted (h := .stuck "store: not the value of one cell") hw trivial fun T d => ?_⟩
      rcases hag with ⟨cs, rfl⟩ | ⟨cs, rfl⟩ <;> rfl
    · have hst : ∀ w' : World, (Sem.store m a v k).runT P w' es = match w'.cell? a with
          | some _ => if w'.frozen? a then (.halt (.unsupported (.unsafePointer "a write to bytes that a string shares")) w', es) else k.runT P (w'.setCell a v) (es.push ⟨.cell a, true, m == .atomic⟩)
          | none => match w'.farStore P a v (m == .atomic) with
            | .ok (w, touched) => k.runT P w (es ++ touched.toArray.map (⟨.cell ·, true, m == .atomic⟩))
            | .error h => (.halt h w', es) := fun w' => by
        cases v <;> first | rfl | exact absurd (.inl ⟨_, rfl⟩) hag | exact absurd (.inr ⟨_, rfl⟩) hag
      cases hc : w.cell? a with
      | some u =>
        have hlt := (hw.cell h.1 hc).2
        cases hf : w.frozen? a with
        | true =>
          refine ⟨_, _, 0, Ran.halted (h := .unsupported (.unsafePointer "a write to bytes that a string shares")) hw (fun g e => by cases e) fun T d => ?_⟩
          rw [hst]
          simp only [show (tp w T d).cell? a = some u from hc, show (tp w T d).frozen? a = true from hf, if_true]
        | false =>
          have hs := hw.setCell h.1 h.2.1 (a := a) (v := v)
          obtain ⟨r, es', n, hr⟩ := ih (w.setCell a v) (es.push ⟨.cell a, true, m == .atomic⟩) h.2.2 hs.1
          refine ⟨r, es', n, hr.step0 hs.2 (fun T d => ?_) fun he => evs_push (fun x hx => (he x hx).mono hs.2.size) (.inl ⟨a, rfl, h.1, Nat.lt_of_lt_of_le hlt hs.2.size⟩)⟩
          rw [hst]
          simp only [show (tp w T d).cell? a = some u from hc, show (tp w T d).frozen? a = false from hf]
          rfl
      | none =>
        refine ⟨_, _, 0, Ran.halted (h := .stuck "store: no such cell") hw trivial fun T d => ?_⟩
        rw [hst]
        simp only [show (tp w T d).cell? a = none from hc, show (tp w T d).farStore P a v (m == .atomic) = _ from farStore_stuck (w := tp w T d) ⟨hw.low, hw.obj⟩ h.1 P v _]
  | new o k ih =>
    intro w es h hw
    obtain ⟨h1, h2, h3⟩ := hw.push h.1
    obtain ⟨r, es', n, hr⟩ := ih w.heap.size _ es (h.2 _ h3) h1
    exact ⟨r, es', n, hr.step0 h2 (fun T d => rfl) fun he x hx => (he x hx).mono h2.size⟩
  | shape r k ih =>
    intro w es h hw
    obtain ⟨r', es', n, hr⟩ := ih (w.shape? r) w es (h _) hw
    exact ⟨r', es', n, hr.step0 (Kept.refl w) (fun T d => rfl) fun x => x⟩
  | freeze a n k ih => intro w es h; exact h.elim
  | frozen a k ih =>
    intro w es h hw
    obtain ⟨r', es', n, hr⟩ := ih (w.frozen? a) w es (h _) hw
    exact ⟨r', es', n, hr.step0 (Kept.refl w) (fun T d => rfl) fun x => x⟩
  | getObj r k ih =>
    intro w es h hw
    cases hb : w.heap[r]? with
    | none =>
      refine ⟨_, _, 0, Ran.halted (h := .stuck "getObj: no such block") hw trivial fun T d => ?_⟩
      simp only [Sem.runT, show (tp w T d).heap[r]? = none from hb]
    | some o =>
      have ho := hw.obj r o hb h.1
      by_cases hcl : ∃ c t f, o = .cells c t f
      · obtain ⟨c, t, f, rfl⟩ := hcl
        refine ⟨_, _, 0, Ran.halted (h := .stuck "getObj: a row of cells") hw trivial fun T d => ?_⟩
        simp only [Sem.runT, show (tp w T d).heap[r]? = _ from hb]
      · obtain ⟨r', es', n, hr⟩ := ih o w (es.push ⟨.obj r, false, o.isChan⟩) (h.2 o ho) hw
        refine ⟨r', es', n, hr.step0 (Kept.refl w) (fun T d => ?_) fun he => evs_push he (.inr (.inl ⟨r, rfl, h.1, (Array.getElem?_eq_some_iff.1 hb).1, ho.notchan⟩))⟩
        simp only [Sem.runT, show (tp w T d).heap[r]? = _ from hb]
        cases o <;> first | rfl | exact absurd ⟨_, _, _, rfl⟩ hcl
  | setObj r o k ih =>
    intro w es h hw
    cases hb : w.heap[r]? with
    | none =>
      refine ⟨_, _, 0, Ran.halted (h := .stuck "setObj: no such block") hw trivial fun T d => ?_⟩
      simp only [Sem.runT, show (tp w T d).heap[r]? = none from hb]
    | some o' =>
      by_cases hcl : ∃ c t f, o' = .cells c t f
      · obtain ⟨c, t, f, rfl⟩ := hcl
        refine ⟨_, _, 0, Ran.halted (h := .stuck "setObj: a row of cells") hw trivial fun T d => ?_⟩
        simp only [Sem.runT, show (tp w T d).heap[r]? = _ from hb]
      · have hs := hw.set h.1 h.2.1
        obtain ⟨r', es', n, hr⟩ := ih _ (es.push ⟨.obj r, true, o.isChan⟩) h.2.2 hs.1
        refine ⟨r', es', n, hr.step0 hs.2 (fun T d => ?_) fun he => evs_push (fun x hx => (he x hx).mono hs.2.size) (.inr (.inl ⟨r, rfl, h.1, Nat.lt_of_lt_of_le (Array.getElem?_eq_some_iff.1 hb).1 hs.2.size, OkObj.notchan h.2.1⟩))⟩
        simp only [Sem.runT, show (tp w T d).heap[r]? = _ from hb]
        cases o' <;> first | rfl | exact absurd ⟨_, _, _, rfl⟩ hcl
  | choose q k ih =>
    intro w es h hw
    cases hf : q.forced with
    | true =>
      obtain ⟨r', es', n, hr⟩ := ih 0 w es (h _) hw
      refine ⟨r', es', n, hr.step0 (Kept.refl w) (fun T d => ?_) fun x => x⟩
      simp only [Sem.runT, hf, if_true]
    | false =>
      obtain ⟨r', es', n, hr⟩ := ih (q.cut (w.tape w.drawn q)) { w with drawn := w.drawn + 1 } es (h _) ⟨hw.low, hw.obj⟩
      refine ⟨r', es', n + 1, fun T d ha => ?_, ⟨hr.kept.tape, hr.kept.os, hr.kept.output, by rw [hr.kept.drawn]; show w.drawn + 1 + n = _; omega, hr.kept.size, hr.kept.keep⟩, hr.heap, hr.evs, hr.ok, hr.halt⟩
      have h0 : T d = w.tape w.drawn := by simpa using ha 0 (Nat.succ_pos _)
      have := hr.run T (d + 1) fun i hi => by rw [show d + 1 + i = d + (i + 1) by omega, ha (i + 1) (by omega)]; show _ = w.tape (w.drawn + 1 + i); rw [show w.drawn + 1 + i = w.drawn + (i + 1) by omega]
      rw [show d + 1 + n = d + (n + 1) by omega] at this
      simp only [Sem.runT, hf]
      show (k (q.cut (T d q))).runT P (tp w T (d + 1)) es = _
      rw [h0]
      exact this
  | sys c k ih => intro w es h; exact h.elim
  | program k ih =>
    intro w es h hw
    obtain ⟨r', es', n, hr⟩ := ih P w es h hw
    exact ⟨r', es', n, hr.step0 (Kept.refl w) (fun T d => rfl) fun x => x⟩
  | mark m k ih =>
    intro w es h hw
    obtain ⟨h1, h2⟩ := h
    subst h1
    obtain ⟨r', es', n, hr⟩ := ih w (es.push ⟨.mark .noRoom, false, true⟩) h2 hw
    exact ⟨r', es', n, hr.step0 (Kept.refl w) (fun T d => rfl) fun he => evs_push he (.inr (.inr rfl))⟩
  | halt h' => exact fun w es h hw => ⟨_, _, 0, Ran.halted hw h fun T d => rfl⟩
end

end Go.Proofs.YtiodikflmijhkaaGreatDoor.Vow
end

section
set_option linter.unusedSectionVars false
set_option linter.unusedVariables false
namespace Go.Proofs.YtiodikflmijhkaaGreatDoor.Vow
open Go Go.Conc

def NextOk (S : Scope) : Next → Prop
  | .value v => Ok S v
  | .skip => True
  | .enter f args => S.F f ∧ ∀ v ∈ args, Ok S v
  | .round l f tmps assign body => ¬ S.D l ∧ S.F f ∧ (∀ v ∈ tmps, Ok S v) ∧ S.C assign ∧ S.C body
  | _ => False

def TmpsOk (S : Scope) (tmps : Array Value) : Prop := ∀ v ∈ tmps, Ok S v
def OpOk (S : Scope) (P : Program) (o : Oper) : Prop := (∀ c, o.op ≠ .defer c) ∧ ∀ fr : Frame, TmpsOk S fr.tmps → Cl S P (execOp fr.eval o) (NextOk S)
/-- The call that a range over a function makes. -/
def rangeCall (ρ : Operand → Value) (f : Operand) (l : Nat) : Sem Next := do
  let d ← resolve ρ { callee := .value f, args := #[.const (.func (.yield l) #[] #[])], argTypes := #[] } 0
  invoke d.target d.args

def CodeOk (S : Scope) (P : Program) : Code → Prop
  | .skip | .ret | .label _ | .exit _ | .refuse _ => True
  | .region _ ops _ => ∀ o ∈ ops, OpOk S P o
  | .seq a b => CodeOk S P a ∧ CodeOk S P b
  | .cond _ a b => CodeOk S P a ∧ CodeOk S P b
  | .block _ b | .loop b => CodeOk S P b
  | .rangeFunc f _ assign body => S.C assign ∧ S.C body ∧ ∀ (fr : Frame) (l : Nat), TmpsOk S fr.tmps → ¬ S.D l → Cl S P (rangeCall fr.eval f l) (NextOk S)
  | _ => False

def ItemOk (S : Scope) (P : Program) : Item → Prop
  | .code c => CodeOk S P c
  | .inBlock _ => True
  | .inLoop b => CodeOk S P b
  | .inRegion ops _ => ∀ o ∈ ops, OpOk S P o
  | .inRangeFunc l | .endRangeFunc l => ¬ S.D l
  | .beginRound => True
  | _ => False

/-- A mark among the deferred calls. -/
def MarkOk (S : Scope) (d : Deferred) : Prop := ∃ b, d = { target := .collected b, args := #[] } ∧ ¬ S.D b
structure FrOk (S : Scope) (P : Program) (fr : Frame) : Prop where
  fn : S.F fr.fn
  defers : ∀ d ∈ fr.defers, MarkOk S d
  round : ∀ l, fr.roundOf = some l → ¬ S.D l
  tmps : TmpsOk S fr.tmps
  todo : ∀ it ∈ fr.todo, ItemOk S P it

structure ScopeOk (S : Scope) (P : Program) : Prop where
  body : ∀ f, S.F f → ∃ fn c, P.funcs[f]? = some fn ∧ fn.body = some c ∧ CodeOk S P c
  res : ∀ f fn, S.F f → P.funcs[f]? = some fn → ∀ tmps, TmpsOk S tmps → Cl S P (results fn tmps) (Ok S)
  code : ∀ c, S.C c → CodeOk S P c
  ret : S.C .ret
  exit : ∀ id, S.C (.exit id)

def Agr (w : World) (m : Nat) (T : Nat → Question → Nat) (d : Nat) : Prop := ∀ i, i < m → T (d + i) = w.tape (w.drawn + i)

structure Good (S : Scope) (w w' : World) (es : Array Event) (m : Nat) : Prop where
  kept : Kept S w w' m
  heap : HeapOk S w'
  evs : ∀ e ∈ es, EvV S w'.heap.size e

def Ended (s : GStep) : Prop := ∃ o w es, s = .ended o w es
def Calling (fr : Frame) : Prop := (∃ ops i rest k, fr.todo = .inRegion ops (i :: rest) :: k) ∨ (∃ l k, fr.todo = .inRangeFunc l :: k) ∨ ∃ k, fr.todo = .beginRound :: k
def Same (fr fr' : Frame) : Prop := fr'.fn = fr.fn ∧ fr'.kind = fr.kind ∧ fr'.roundOf = fr.roundOf
theorem Same.rfl {fr : Frame} : Same fr fr := ⟨Eq.refl _, Eq.refl _, Eq.refl _⟩
theorem Same.trans {a b c : Frame} (h : Same a b) (k : Same b c) : Same a c := ⟨k.1.trans h.1, k.2.1.trans h.2.1, k.2.2.trans h.2.2⟩

/-- What a step makes of a frame: 'F' is the step, over whatever callers, on whatever tape. -/
inductive OutF (S : Scope) (P : Program) (fr : Frame) (w : World) (F : List Frame → World → GStep) : Prop
  | go (fr' : Frame) (w' : World) (es : Array Event) (m : Nat) : FrOk S P fr' → Same fr fr' → Good S w w' es m → (∀ cs T d, Agr w m T d → F cs (tp w T d) = .go (G fr' cs) (tp w' T (d + m)) es) → OutF S P fr w F
  | enter (fr1 g : Frame) (w' : World) (es : Array Event) (m : Nat) : FrOk S P fr1 → Same fr fr1 → fr1.mode = .run → Calling fr1 → FrOk S P g → g.kind = .normal → Good S w w' es m →
      (∀ cs T d, Agr w m T d → F cs (tp w T d) = .go (G g (fr1 :: cs)) (tp w' T (d + m)) es) → OutF S P fr w F
  | pop (v : Value) (w' : World) (es : Array Event) (m : Nat) : fr.roundOf ≠ none → Ok S v → Good S w w' es m → (∀ c cs T d, fr.kind = .normal → Agr w m T d → F (c :: cs) (tp w T d) = .go (G (c.finish v) cs) (tp w' T (d + m)) es) → OutF S P fr w F
  | dead (m : Nat) : (∀ cs T d, Agr w m T d → Ended (F cs (tp w T d))) → OutF S P fr w F

section
variable {S : Scope} {P : Program} {fr : Frame} {w : World} {F : List Frame → World → GStep}

theorem good_refl (hw : HeapOk S w) : Good S w w #[] 0 := ⟨Kept.refl w, hw, by simp⟩
theorem Good.trans {w1 w2 : World} {es1 es2 : Array Event} {m1 m2 : Nat} (h : Good S w w1 es1 m1) (k : Good S w1 w2 es2 m2) : Good S w w2 (es1 ++ es2) (m1 + m2) :=
  ⟨h.kept.trans k.kept, k.heap, fun e he => (Array.mem_append.1 he).elim (fun x => (h.evs e x).mono k.kept.size) (k.evs e)⟩
theorem Agr.left {m n : Nat} {T : Nat → Question → Nat} {d : Nat} (h : Agr w (m + n) T d) : Agr w m T d := fun i hi => h i (by omega)
theorem Agr.right {w1 : World} {m n : Nat} {T : Nat → Question → Nat} {d : Nat} (h : Agr w (m + n) T d) (hk : Kept S w w1 m) : Agr w1 n T (d + m) := fun i hi => by
  have := h (m + i) (by omega)
  rw [hk.tape, hk.drawn, Nat.add_assoc, Nat.add_assoc]
  exact this

theorem after_go (es1 es2 : Array Event) (g : Goroutine) (w : World) : GStep.after es1 (.go g w es2) = .go g w (es1 ++ es2) := rfl
theorem after_ended {es1 : Array Event} {s : GStep} (h : Ended s) : Ended (GStep.after es1 s) := by
  obtain ⟨o, w, es, rfl⟩ := h
  exact ⟨_, _, _, rfl⟩
/-- A piece ahead of a step. -/
theorem OutF.after {fr1 : Frame} {w1 : World} {es1 : Array Event} {m1 : Nat} {F1 : List Frame → World → GStep} (hs : Same fr fr1) (hg : Good S w w1 es1 m1) (h : OutF S P fr1 w1 F1)
    (hF : ∀ cs T d, Agr w m1 T d → F cs (tp w T d) = GStep.after es1 (F1 cs (tp w1 T (d + m1)))) : OutF S P fr w F := by
  cases h with
  | go fr' w' es m h1 h2 h3 h4 =>
    refine .go fr' w' (es1 ++ es) (m1 + m) h1 (hs.trans h2) (hg.trans h3) fun cs T d ha => ?_
    rw [hF cs T d ha.left, h4 cs T _ (ha.right hg.kept), after_go, Nat.add_assoc]
  | enter fr2 g w' es m h1 h2 h3 h4 h5 h6 h7 h8 =>
    refine .enter fr2 g w' (es1 ++ es) (m1 + m) h1 (hs.trans h2) h3 h4 h5 h6 (hg.trans h7) fun cs T d ha => ?_
    rw [hF cs T d ha.left, h8 cs T _ (ha.right hg.kept), after_go, Nat.add_assoc]
  | pop v w' es m h1 h2 h3 h4 =>
    refine .pop v w' (es1 ++ es) (m1 + m) (by rw [← hs.2.2]; exact h1) h2 (hg.trans h3) fun c cs T d hk ha => ?_
    rw [hF _ T d ha.left, h4 c cs T _ (by rw [hs.2.1]; exact hk) (ha.right hg.kept), after_go, Nat.add_assoc]
  | dead m h1 =>
    refine .dead (m1 + m) fun cs T d ha => ?_
    rw [hF cs T d ha.left]
    exact after_ended (h1 cs T _ (ha.right hg.kept))
theorem OutF.ctl {fr' : Frame} (hw : HeapOk S w) (h : FrOk S P fr') (h1 : Same fr fr') (hs : ∀ cs w, F cs w = .go (G fr' cs) w) : OutF S P fr w F :=
  .go fr' w #[] 0 h h1 (good_refl hw) fun cs T d _ => hs cs (tp w T d)

theorem exitTo_sub (id : Nat) : ∀ {l r : List Item}, exitTo id l = some r → ∀ it ∈ r, it ∈ l
  | [], _, h => by cases h
  | it :: l, r, h => by
    have key : exitTo id l = some r → ∀ x ∈ r, x ∈ it :: l := fun h x hx => List.mem_cons_of_mem _ (exitTo_sub id h x hx)
    cases it with
    | inBlock id' =>
      simp only [exitTo] at h
      split at h
      · cases h; exact fun x hx => List.mem_cons_of_mem _ hx
      · exact key h
    | _ => exact key (by simpa only [exitTo] using h)

theorem TmpsOk.set {tmps : Array Value} (h : TmpsOk S tmps) {v : Value} (hv : Ok S v) (d : Nat) : TmpsOk S (tmps.setIfInBounds d v) := by
  intro x hx
  rcases Array.mem_or_eq_of_mem_setIfInBounds hx with h1 | rfl
  · exact h x h1
  · exact hv

/-- What 'finish' leaves. -/
theorem finish_ok (h : FrOk S P fr) (hc : Calling fr) {v : Value} (hv : Ok S v) : FrOk S P (fr.finish v) ∧ Same fr (fr.finish v) ∧ (fr.finish v).mode = fr.mode := by
  obtain ⟨fn, tmps, todo, defers, mode, kind, round⟩ := fr
  obtain ⟨h0, h1, h2, h3, h4⟩ := h
  simp only at h0 h1 h2 h3 h4
  rcases hc with ⟨ops, i, rest, r, ht⟩ | ⟨l, r, ht⟩ | ⟨r, ht⟩
  all_goals
    simp only at ht
    subst ht
  · refine ⟨⟨h0, h1, h2, ?_, ?_⟩, ⟨rfl, rfl, rfl⟩, rfl⟩
    · show TmpsOk S (match (ops[i]?).bind (·.dst) with | some d => tmps.setIfInBounds d v | none => tmps)
      cases (ops[i]?).bind (·.dst) with
      | none => exact h3
      | some d => exact h3.set hv d
    · intro it hit
      rcases List.mem_cons.1 hit with rfl | h
      · exact h4 (.inRegion ops (i :: rest)) (by simp)
      · exact h4 it (List.mem_cons_of_mem _ h)
  · refine ⟨⟨h0, h1, h2, h3, ?_⟩, ⟨rfl, rfl, rfl⟩, rfl⟩
    intro it hit
    rcases List.mem_cons.1 hit with rfl | h
    · exact h4 (.inRangeFunc l) (by simp)
    · exact h4 it (List.mem_cons_of_mem _ h)
  · exact ⟨⟨h0, h1, h2, h3, fun it hit => h4 it (List.mem_cons_of_mem _ hit)⟩, ⟨rfl, rfl, rfl⟩, rfl⟩
theorem raise_ok {c : Frame} (h : FrOk S P c) (vs : List PanicEntry) : FrOk S P (c.raise vs) ∧ Same c (c.raise vs) := by
  obtain ⟨fn, tmps, todo, defers, mode, kind, round⟩ := c
  obtain ⟨h0, h1, h2, h3, h4⟩ := h
  cases mode <;> exact ⟨⟨h0, h1, h2, h3, h4⟩, rfl, rfl, rfl⟩
theorem enter_ok (hS : ScopeOk S P) {f : FuncId} {args : Array Value} (hf : S.F f) (ha : ∀ v ∈ args, Ok S v) : FrOk S P (Frame.enter P f args .normal) := by
  obtain ⟨fn, c, h1, h2, h3⟩ := hS.body f hf
  refine ⟨hf, fun d hd => by simp [Frame.enter] at hd, fun l hl => by simp [Frame.enter] at hl, fun v hv => ?_, fun it hit => ?_⟩
  · simp only [Frame.enter, Array.mem_append] at hv
    rcases hv with h | h
    · exact ha v h
    · rw [Array.mem_replicate] at h; rw [h.2]; exact ok_undef
  · simp only [Frame.enter, h1, Option.bind_some, h2, Option.getD_some, List.mem_singleton] at hit
    subst hit
    exact h3
theorem round_ok (hS : ScopeOk S P) {l : Nat} {f : FuncId} {tmps : Array Value} {assign body : Code} (h1 : ¬ S.D l) (h2 : S.F f) (h3 : ∀ v ∈ tmps, Ok S v) (h4 : S.C assign) (h5 : S.C body) : FrOk S P (Frame.round l f tmps assign body .normal) := by
  refine ⟨h2, fun d hd => by simp [Frame.round] at hd, fun l' hl => ?_, h3, fun it hit => ?_⟩
  · simp only [Frame.round, Option.some.injEq] at hl
    rw [← hl]; exact h1
  · simp only [Frame.round, List.mem_cons, List.not_mem_nil, or_false] at hit
    rcases hit with rfl | rfl | rfl
    · exact hS.code _ h4
    · trivial
    · exact hS.code _ h5

/-- The events that a piece of a step lists. -/
theorem good_of_ran {α : Type} {s : Sem α} {Φ : α → Prop} {r : Result α} {es' : Array Event} {m : Nat} (hR : Ran S P s w #[] Φ r es' m) (fn : FuncId) (b : Bool) : Good S w (rw_ r) (seen P fn (if b then #[] else es')) m :=
  ⟨hR.kept, hR.heap, fun e he => by
    have := mem_seen he
    split at this
    · simp at this
    · exact hR.evs (by simp) e this⟩

set_option maxHeartbeats 1600000 in
/-- ████ AN OPERATION OF A FRAME's. ████ -/
theorem apply_out (hS : ScopeOk S P) (h : FrOk S P fr) (hm : fr.mode = .run) (hc : Calling fr) {s : Sem Next} (hcl : Cl S P s (NextOk S)) (hw : HeapOk S w) : OutF S P fr w (fun cs w => stepG.apply P true fr cs none s w) := by
  obtain ⟨res, es', m, hR⟩ := hcl.runs _ w #[] hw
  obtain ⟨ev, hev⟩ : ∃ ev : Array Event, ev = seen P fr.fn (if fr.kind == .early then #[] else es') := ⟨_, rfl⟩
  have hgood : Good S w (rw_ res) ev m := hev ▸ good_of_ran hR _ _
  cases res with
  | ok a w' =>
    have ha := hR.ok a w' rfl
    cases a with
    | value v =>
      obtain ⟨f1, f2, f3⟩ := finish_ok h hc (v := v) ha
      refine .go (fr.finish v) w' ev m f1 f2 hgood fun cs T d hag => ?_
      simp only [stepG.apply, if_true, hR.run T d hag, rtp, hev]
      simp [GStep.after, G]
    | skip =>
      obtain ⟨f1, f2, f3⟩ := finish_ok h hc (v := undef) ok_undef
      refine .go (fr.finish undef) w' ev m f1 f2 hgood fun cs T d hag => ?_
      simp only [stepG.apply, if_true, hR.run T d hag, rtp, hev]
      simp [GStep.after, G]
    | enter f args =>
      refine .enter fr (Frame.enter P f args .normal) w' ev m h .rfl hm hc (enter_ok hS ha.1 ha.2) rfl hgood fun cs T d hag => ?_
      simp only [stepG.apply, if_true, hR.run T d hag, rtp, hev]
      simp [GStep.after, G]
      rcases hc with ⟨ops, i, rest, r, ht⟩ | ⟨l, r, ht⟩ | ⟨r, ht⟩ <;> rw [ht]
    | round l f tmps assign body =>
      refine .enter fr (Frame.round l f tmps assign body .normal) w' ev m h .rfl hm hc (round_ok hS ha.1 ha.2.1 ha.2.2.1 ha.2.2.2.1 ha.2.2.2.2) rfl hgood fun cs T d hag => ?_
      simp only [stepG.apply, if_true, hR.run T d hag, rtp, hev]
      simp [GStep.after, G]
    | _ => exact ha.elim
  | halt h' w' =>
    have ha := hR.halt h' w' rfl
    cases h' with
    | panic v =>
      obtain ⟨f1, f2⟩ := raise_ok h [{ v, recovered := false }]
      refine .go (fr.raise [{ v, recovered := false }]) w' ev m f1 f2 hgood fun cs T d hag => ?_
      simp only [stepG.apply, if_true, hR.run T d hag, rtp, hev]
      simp [GStep.after, G]
    | stuck why =>
      refine .dead m fun cs T d hag => ?_
      simp only [stepG.apply, if_true, hR.run T d hag, rtp]
      exact ⟨_, _, _, rfl⟩
    | unsupported u =>
      refine .dead m fun cs T d hag => ?_
      simp only [stepG.apply, if_true, hR.run T d hag, rtp]
      cases u with
      | initOrder g => exact absurd rfl (ha g)
      | _ => exact ⟨_, _, _, rfl⟩
    | _ => exact ha.elim
end

end Go.Proofs.YtiodikflmijhkaaGreatDoor.Vow
end
