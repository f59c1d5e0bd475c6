import Derived.Control
import Derived.Conc.Own
import Derived.Conc.Listed
import Derived.Conc.LoneCalls
import Derived.Laws.Sem
import Derived.Test.YtiodikflmijhkaaFA
/- Values that hold no address of a forbidden block and no function but such as are named: what an operation does that is given such values alone, on whatever tape. No program is named here. -/
namespace Go.Proofs.Ytiodikflmijhkaa.Vow
open Go

/-- The forbidden blocks; the functions that may be entered. -/
structure Scope where
  D : Nat → Prop
  F : FuncId → Prop

def FnOk (S : Scope) : Fn → Prop
  | .func f => S.F f
  | _ => False

inductive Ok (S : Scope) : Value → Prop
  | bool (b : Bool) : Ok S (.bool b)
  | int (k : IntKind) (n : Int) : Ok S (.int k n)
  | string (s : ByteArray) : Ok S (.string s)
  | pointer (a : Option Addr) (h : ∀ x, a = some x → ¬ S.D x.block) : Ok S (.pointer a)
  | slice (a : Option Addr) (l c : Nat) (h : ∀ x, a = some x → ¬ S.D x.block) : Ok S (.slice a l c)
  | func (fn : Fn) (a b : Array Value) (h : FnOk S fn) (ha : ∀ v ∈ a, Ok S v) (hb : ∀ v ∈ b, Ok S v) : Ok S (.func fn a b)
  | nilFunc : Ok S .nilFunc
  | nilIface : Ok S .nilIface
  | iface (t : TypeId) (v : Value) (h : Ok S v) : Ok S (.iface t v)
  | agg (cs : Array Value) (h : ∀ v ∈ cs, Ok S v) : Ok S (.agg cs)
  | tuple (vs : Array Value) (h : ∀ v ∈ vs, Ok S v) : Ok S (.tuple vs)

section
variable {S : Scope}
theorem ok_pointer {a : Addr} : Ok S (.pointer (some a)) ↔ ¬ S.D a.block := ⟨fun h => by cases h with | pointer _ h => exact h a rfl, fun h => .pointer _ fun x e => by cases e; exact h⟩
theorem ok_slice {a : Addr} {l c : Nat} : Ok S (.slice (some a) l c) ↔ ¬ S.D a.block := ⟨fun h => by cases h with | slice _ _ _ h => exact h a rfl, fun h => .slice _ _ _ fun x e => by cases e; exact h⟩
theorem ok_nilptr : Ok S (.pointer none) := .pointer _ fun _ e => by cases e
theorem ok_nilslice {l c : Nat} : Ok S (.slice none l c) := .slice _ _ _ fun _ e => by cases e
theorem ok_agg {cs : Array Value} : Ok S (.agg cs) ↔ ∀ v ∈ cs, Ok S v := ⟨fun h => by cases h with | agg _ h => exact h, .agg _⟩
theorem ok_tuple {cs : Array Value} : Ok S (.tuple cs) ↔ ∀ v ∈ cs, Ok S v := ⟨fun h => by cases h with | tuple _ h => exact h, .tuple _⟩
theorem ok_iface {t : TypeId} {v : Value} : Ok S (.iface t v) ↔ Ok S v := ⟨fun h => by cases h with | iface _ _ h => exact h, .iface _ _⟩
theorem ok_undef : Ok S (.tuple #[]) := .tuple _ fun _ h => by simp at h
theorem ok_cells {v : Value} (h : Ok S v) : ∀ c ∈ v.cells, Ok S c := by
  cases h with
  | agg cs h => exact h
  | _ => intro c hc; simp only [Value.cells] at hc; simp at hc; subst hc; constructor <;> assumption

def OkObj (S : Scope) : Obj → Prop
  | .cells c _ _ => ∀ v ∈ c, Ok S v
  | .number a _ => ¬ S.D a.block
  | _ => False

def HaltOk : Halt → Prop
  | .panic _ | .stuck _ => True
  | .unsupported u => ∀ g, u ≠ .initOrder g
  | _ => False

/-- A piece of an operation that is given such values alone: it touches such blocks alone, makes such values alone. -/
def Cl (S : Scope) (P : Program) {α : Type} : Sem α → (α → Prop) → Prop
  | .pure a, Φ => Φ a
  | .load _ a k, Φ => ¬ S.D a.block ∧ ∀ v, Ok S v → Cl S P (k v) Φ
  | .store _ a v k, Φ => ¬ S.D a.block ∧ Ok S v ∧ Cl S P k Φ
  | .new o k, Φ => OkObj S o ∧ ∀ r, ¬ S.D r → Cl S P (k r) Φ
  | .shape _ k, Φ => ∀ s, Cl S P (k s) Φ
  | .freeze _ _ _, _ => False
  | .frozen _ k, Φ => ∀ b, Cl S P (k b) Φ
  | .getObj r k, Φ => ¬ S.D r ∧ ∀ o, OkObj S o → Cl S P (k o) Φ
  | .setObj r o k, Φ => ¬ S.D r ∧ OkObj S o ∧ Cl S P k Φ
  | .choose _ k, Φ => ∀ n, Cl S P (k n) Φ
  | .sys _ _, _ => False
  | .program k, Φ => Cl S P (k P) Φ
  | .mark m k, Φ => m = .noRoom ∧ Cl S P k Φ
  | .halt h, _ => HaltOk h

theorem Cl.mono {P : Program} {α : Type} {s : Sem α} {Φ Ψ : α → Prop} (h : Cl S P s Φ) (hΦ : ∀ a, Φ a → Ψ a) : Cl S P s Ψ := by
  induction s with
  | pure a => exact hΦ a h
  | load m a k ih => exact ⟨h.1, fun v hv => ih v (h.2 v hv)⟩
  | store m a v k ih => exact ⟨h.1, h.2.1, ih h.2.2⟩
  | new o k ih => exact ⟨h.1, fun r hr => ih r (h.2 r hr)⟩
  | shape r k ih => exact fun s => ih s (h s)
  | freeze a n k ih => exact h
  | frozen a k ih => exact fun b => ih b (h b)
  | getObj r k ih => exact ⟨h.1, fun o ho => ih o (h.2 o ho)⟩
  | setObj r o k ih => exact ⟨h.1, h.2.1, ih h.2.2⟩
  | choose q k ih => exact fun n => ih n (h n)
  | sys c k ih => exact h
  | program k ih => exact ih P h
  | mark m k ih => exact ⟨h.1, ih h.2⟩
  | halt h' => exact h

theorem Cl.sbind {P : Program} {α β : Type} {s : Sem α} {f : α → Sem β} {Φ : α → Prop} {Ψ : β → Prop} (h : Cl S P s Φ) (hf : ∀ a, Φ a → Cl S P (f a) Ψ) : Cl S P (s.bind f) Ψ := by
  induction s with
  | pure a => exact hf a h
  | load m a k ih => exact ⟨h.1, fun v hv => ih v (h.2 v hv)⟩
  | store m a v k ih => exact ⟨h.1, h.2.1, ih h.2.2⟩
  | new o k ih => exact ⟨h.1, fun r hr => ih r (h.2 r hr)⟩
  | shape r k ih => exact fun s => ih s (h s)
  | freeze a n k ih => exact h
  | frozen a k ih => exact fun b => ih b (h b)
  | getObj r k ih => exact ⟨h.1, fun o ho => ih o (h.2 o ho)⟩
  | setObj r o k ih => exact ⟨h.1, h.2.1, ih h.2.2⟩
  | choose q k ih => exact fun n => ih n (h n)
  | sys c k ih => exact h
  | program k ih => exact ih P h
  | mark m k ih => exact ⟨h.1, ih h.2⟩
  | halt h' => exact h
theorem Cl.bind {P : Program} {α β : Type} {s : Sem α} {f : α → Sem β} {Φ : α → Prop} {Ψ : β → Prop} (h : Cl S P s Φ) (hf : ∀ a, Φ a → Cl S P (f a) Ψ) : Cl S P (s >>= f) Ψ := Cl.sbind h hf
theorem Cl.any {P : Program} {α : Type} {s : Sem α} {Φ : α → Prop} (h : Cl S P s Φ) : Cl S P s fun _ => True := h.mono fun _ _ => trivial

/-! ### the run -/
def tp (w : World) (T : Nat → Question → Nat) (d : Nat) : World := { w with tape := T, drawn := d }
def rtp {α : Type} (r : Result α) (T : Nat → Question → Nat) (d : Nat) : Result α := match r with | .ok a w => .ok a (tp w T d) | .halt h w => .halt h (tp w T d)
def rw_ {α : Type} : Result α → World | .ok _ w => w | .halt _ w => w

structure HeapOk (S : Scope) (w : World) : Prop where
  low : ∀ b, S.D b → b < w.heap.size
  obj : ∀ (b : Nat) (o : Obj), w.heap[b]? = some o → ¬ S.D b → OkObj S o

def EvV (S : Scope) (B : Nat) (e : Event) : Prop :=
  (∃ a, e.loc = .cell a ∧ ¬ S.D a.block ∧ a.block < B) ∨ (∃ r, e.loc = .obj r ∧ ¬ S.D r ∧ r < B ∧ e.sync = false) ∨ e.loc = .mark .noRoom
theorem EvV.mono {B B' : Nat} {e : Event} (h : EvV S B e) (hB : B ≤ B') : EvV S B' e := by
  rcases h with ⟨a, h1, h2, h3⟩ | ⟨r, h1, h2, h3, h4⟩ | h
  · exact .inl ⟨a, h1, h2, Nat.lt_of_lt_of_le h3 hB⟩
  · exact .inr (.inl ⟨r, h1, h2, Nat.lt_of_lt_of_le h3 hB, h4⟩)
  · exact .inr (.inr h)

structure Kept (S : Scope) (w w' : World) (m : Nat) : Prop where
  tape : w'.tape = w.tape
  os : w'.os = w.os
  output : w'.output = w.output
  drawn : w'.drawn = w.drawn + m
  size : w.heap.size ≤ w'.heap.size
  keep : ∀ b, S.D b → w'.heap[b]? = w.heap[b]?

theorem Kept.refl (w : World) : Kept S w w 0 := ⟨rfl, rfl, rfl, rfl, Nat.le_refl _, fun _ _ => rfl⟩
theorem Kept.trans {a b c : World} {m n : Nat} (h : Kept S a b m) (k : Kept S b c n) : Kept S a c (m + n) :=
  ⟨k.tape.trans h.tape, k.os.trans h.os, k.output.trans h.output, by rw [k.drawn, h.drawn, Nat.add_assoc], Nat.le_trans h.size k.size, fun x hx => (k.keep x hx).trans (h.keep x hx)⟩

/-- What a run shows: on whatever tape that agrees for the m draws to come. -/
structure Ran {α : Type} (S : Scope) (P : Program) (s : Sem α) (w : World) (es : Array Event) (Φ : α → Prop) (r : Result α) (es' : Array Event) (m : Nat) : Prop where
  run : ∀ T d, (∀ i, i < m → T (d + i) = w.tape (w.drawn + i)) → s.runT P (tp w T d) es = (rtp r T (d + m), es')
  kept : Kept S w (rw_ r) m
  heap : HeapOk S (rw_ r)
  evs : (∀ e ∈ es, EvV S w.heap.size e) → ∀ e ∈ es', EvV S (rw_ r).heap.size e
  ok : ∀ a w', r = .ok a w' → Φ a
  halt : ∀ h w', r = .halt h w' → HaltOk h

theorem tp_tp (w : World) (T T' : Nat → Question → Nat) (d d' : Nat) : tp (tp w T d) T' d' = tp w T' d' := rfl
theorem tp_self (w : World) : tp w w.tape w.drawn = w := rfl
theorem rtp_self {α : Type} (r : Result α) : rtp r (rw_ r).tape (rw_ r).drawn = r := by cases r <;> rfl

theorem HeapOk.cell {w : World} (h : HeapOk S w) {a : Addr} (ha : ¬ S.D a.block) {v : Value} (hc : w.cell? a = some v) : Ok S v ∧ a.block < w.heap.size := by
  unfold World.cell? at hc
  split at hc
  · rename_i c t f hb
    split at hc
    · cases hc
    · exact ⟨h.obj _ _ hb ha v (Array.mem_of_getElem? hc), (Array.getElem?_eq_some_iff.1 hb).1⟩
  · cases hc

theorem noCell_stuck {w : World} (h : HeapOk S w) {a : Addr} (ha : ¬ S.D a.block) (what : String) : w.noCell a what = .stuck what := by
  unfold World.noCell
  split
  · rename_i hb; exact absurd (h.obj _ _ hb ha) id
  · rename_i hb; exact absurd (h.obj _ _ hb ha) id
  · rfl
theorem farLoad_stuck {w : World} (h : HeapOk S w) {a : Addr} (ha : ¬ S.D a.block) (P : Program) (m : Bool) : w.farLoad P a m = .error (.stuck "load: no such cell") := by
  unfold World.farLoad
  split
  · rename_i hb; exact absurd (h.obj _ _ hb ha) id
  · rw [noCell_stuck h ha]
theorem farStore_stuck {w : World} (h : HeapOk S w) {a : Addr} (ha : ¬ S.D a.block) (P : Program) (v : Value) (m : Bool) : w.farStore P a v m = .error (.stuck "store: no such cell") := by
  unfold World.farStore
  split
  · rename_i hb; exact absurd (h.obj _ _ hb ha) id
  · rw [noCell_stuck h ha]

theorem HeapOk.setCell {w : World} (h : HeapOk S w) {a : Addr} (ha : ¬ S.D a.block) {v : Value} (hv : Ok S v) : HeapOk S (w.setCell a v) ∧ Kept S w (w.setCell a v) 0 := by
  refine ⟨⟨fun b hb => by simpa [World.setCell] using h.low b hb, fun b o hb hd => ?_⟩, rfl, rfl, rfl, rfl, by simp [World.setCell], fun b hb => ?_⟩
  · simp only [World.setCell, Array.getElem?_modify] at hb
    split at hb
    · cases hob : w.heap[b]? with
      | none => rw [hob] at hb; cases hb
      | some o' =>
        rw [hob] at hb
        have ho := h.obj b o' hob hd
        cases o' <;> simp only [Option.map_some, Option.some.injEq] at hb <;> subst hb <;> try exact ho
        rename_i c t f
        show ∀ x ∈ _, Ok S x
        split
        · exact ho
        · intro x hx
          rcases Array.mem_or_eq_of_mem_setIfInBounds hx with h1 | rfl
          · exact ho x h1
          · exact hv
    · exact h.obj b o hb hd
  · simp only [World.setCell, Array.getElem?_modify]
    rw [if_neg fun e => ha (by rw [e]; exact hb)]

theorem HeapOk.push {w : World} (h : HeapOk S w) {o : Obj} (ho : OkObj S o) : HeapOk S { w with heap := w.heap.push o } ∧ Kept S w { w with heap := w.heap.push o } 0 ∧ ¬ S.D w.heap.size := by
  have nd : ¬ S.D w.heap.size := fun hd => Nat.lt_irrefl _ (h.low _ hd)
  refine ⟨⟨fun b hb => by simpa using Nat.lt_succ_of_lt (h.low b hb), fun b o' hb hd => ?_⟩, ⟨rfl, rfl, rfl, rfl, by simp, fun b hb => ?_⟩, nd⟩
  · simp only [Array.getElem?_push] at hb
    split at hb
    · cases hb; exact ho
    · exact h.obj b o' hb hd
  · simp only [Array.getElem?_push]
    rw [if_neg fun e : b = w.heap.size => nd (e ▸ hb)]

theorem HeapOk.set {w : World} (h : HeapOk S w) {r : Nat} (hr : ¬ S.D r) {o : Obj} (ho : OkObj S o) : HeapOk S { w with heap := w.heap.setIfInBounds r o } ∧ Kept S w { w with heap := w.heap.setIfInBounds r o } 0 := by
  refine ⟨⟨fun b hb => by simpa using h.low b hb, fun b o' hb hd => ?_⟩, rfl, rfl, rfl, rfl, by simp, fun b hb => ?_⟩
  · simp only [Array.getElem?_setIfInBounds] at hb
    split at hb
    · split at hb
      · cases hb; exact ho
      · cases hb
    · exact h.obj b o' hb hd
  · simp only [Array.getElem?_setIfInBounds]
    rw [if_neg fun e : r = b => hr (e ▸ hb)]

theorem Ran.step0 {α : Type} {P : Program} {s s' : Sem α} {w w' : World} {es es₁ : Array Event} {Φ : α → Prop} {r : Result α} {es' : Array Event} {m : Nat} (h : Ran S P s' w' es₁ Φ r es' m) (hk : Kept S w w' 0)
    (hs : ∀ T d, s.runT P (tp w T d) es = s'.runT P (tp w' T d) es₁) (he : (∀ e ∈ es, EvV S w.heap.size e) → ∀ e ∈ es₁, EvV S w'.heap.size e) : Ran S P s w es Φ r es' m := by
  refine ⟨fun T d ha => ?_, ?_, h.heap, fun x => h.evs (he x), h.ok, h.halt⟩
  · rw [hs T d]
    exact h.run T d fun i hi => by rw [ha i hi, hk.tape, hk.drawn, Nat.add_zero]
  · have := hk.trans h.kept
    rwa [Nat.zero_add] at this

theorem evs_push {B : Nat} {es : Array Event} {e : Event} (h : ∀ x ∈ es, EvV S B x) (he : EvV S B e) : ∀ x ∈ es.push e, EvV S B x := by
  intro x hx
  rcases Array.mem_push.1 hx with h1 | rfl
  · exact h x h1
  · exact he

theorem Ran.halted {α : Type} {P : Program} {s : Sem α} {w : World} {es : Array Event} {Φ : α → Prop} {h : Halt} (hw : HeapOk S w) (hh : HaltOk h) (hs : ∀ T d, s.runT P (tp w T d) es = (.halt h (tp w T d), es)) : Ran S P s w es Φ (.halt h w) es 0 :=
  ⟨fun T d _ => hs T d, Kept.refl w, hw, fun x => x, fun _ _ e => (by cases e), fun _ _ e => by cases e; exact hh⟩

theorem OkObj.notchan {o : Obj} (h : OkObj S o) : o.isChan = false := by cases o <;> first | rfl | exact h.elim

/-- ████ THE RUN OF A PIECE THAT IS GIVEN SUCH VALUES ALONE. ████ -/
theorem Cl.runs {P : Program} {α : Type} {Φ : α → Prop} (s : Sem α) : ∀ (w : World) (es : Array Event), Cl S P s Φ → HeapOk S w → ∃ r es' m, Ran S P s w es Φ r es' m := by
  induction s with
  | pure a => exact fun w es h hw => ⟨.ok a w, es, 0, fun T d _ => rfl, Kept.refl w, hw, fun x => x, fun _ _ e => by cases e; exact h, fun _ _ e => by cases e⟩
  | load m a k ih =>
    intro w es h hw
    cases hc : w.cell? a with
    | some v =>
      have hv := hw.cell h.1 hc
      obtain ⟨r, es', n, hr⟩ := ih v w (es.push ⟨.cell a, false, m == .atomic⟩) (h.2 v hv.1) hw
      refine ⟨r, es', n, hr.step0 (Kept.refl w) (fun T d => ?_) fun he => evs_push he (.inl ⟨a, rfl, h.1, hv.2⟩)⟩
      simp only [Sem.runT, show (tp w T d).cell? a = some v from hc]
    | none =>
      refine ⟨_, _, 0, Ran.halted (h := .stuck "load: no such cell") hw trivial fun T d => ?_⟩
      simp only [Sem.runT, show (tp w T d).cell? a = none from hc, show (tp w T d).farLoad P a (m == .atomic) = _ from farLoad_stuck hw h.1 P _]
  | store m a v k ih =>
    intro w es h hw
    by_cases hag : (∃ cs, v = .agg cs) ∨ ∃ cs, v = .tuple cs
    · refine ⟨_, _, 0, Ran.halted (h := .stuck "store: not the value of one cell") hw trivial fun T d => ?_⟩
      rcases hag with ⟨cs, rfl⟩ | ⟨cs, rfl⟩ <;> rfl
    · have hst : ∀ w' : World, (Sem.store m a v k).runT P w' es = match w'.cell? a with
          | some _ => if w'.frozen? a then (.halt (.unsupported (.unsafePointer "a write to bytes that a string shares")) w', es) else k.runT P (w'.setCell a v) (es.push ⟨.cell a, true, m == .atomic⟩)
          | none => match w'.farStore P a v (m == .atomic) with
            | .ok (w, touched) => k.runT P w (es ++ touched.toArray.map (⟨.cell ·, true, m == .atomic⟩))
            | .error h => (.halt h w', es) := fun w' => by
        cases v <;> first | rfl | exact absurd (.inl ⟨_, rfl⟩) hag | exact absurd (.inr ⟨_, rfl⟩) hag
      cases hc : w.cell? a with
      | some u =>
        have hlt := (hw.cell h.1 hc).2
        cases hf : w.frozen? a with
        | true =>
          refine ⟨_, _, 0, Ran.halted (h := .unsupported (.unsafePointer "a write to bytes that a string shares")) hw (fun g e => by cases e) fun T d => ?_⟩
          rw [hst]
          simp only [show (tp w T d).cell? a = some u from hc, show (tp w T d).frozen? a = true from hf, if_true]
        | false =>
          have hs := hw.setCell h.1 h.2.1 (a := a) (v := v)
          obtain ⟨r, es', n, hr⟩ := ih (w.setCell a v) (es.push ⟨.cell a, true, m == .atomic⟩) h.2.2 hs.1
          refine ⟨r, es', n, hr.step0 hs.2 (fun T d => ?_) fun he => evs_push (fun x hx => (he x hx).mono hs.2.size) (.inl ⟨a, rfl, h.1, Nat.lt_of_lt_of_le hlt hs.2.size⟩)⟩
          rw [hst]
          simp only [show (tp w T d).cell? a = some u from hc, show (tp w T d).frozen? a = false from hf]
          rfl
      | none =>
        refine ⟨_, _, 0, Ran.halted (h := .stuck "store: no such cell") hw trivial fun T d => ?_⟩
        rw [hst]
        simp only [show (tp w T d).cell? a = none from hc, show (tp w T d).farStore P a v (m == .atomic) = _ from farStore_stuck (w := tp w T d) ⟨hw.low, hw.obj⟩ h.1 P v _]
  | new o k ih =>
    intro w es h hw
    obtain ⟨h1, h2, h3⟩ := hw.push h.1
    obtain ⟨r, es', n, hr⟩ := ih w.heap.size _ es (h.2 _ h3) h1
    exact ⟨r, es', n, hr.step0 h2 (fun T d => rfl) fun he x hx => (he x hx).mono h2.size⟩
  | shape r k ih =>
    intro w es h hw
    obtain ⟨r', es', n, hr⟩ := ih (w.shape? r) w es (h _) hw
    exact ⟨r', es', n, hr.step0 (Kept.refl w) (fun T d => rfl) fun x => x⟩
  | freeze a n k ih => intro w es h; exact h.elim
  | frozen a k ih =>
    intro w es h hw
    obtain ⟨r', es', n, hr⟩ := ih (w.frozen? a) w es (h _) hw
    exact ⟨r', es', n, hr.step0 (Kept.refl w) (fun T d => rfl) fun x => x⟩
  | getObj r k ih =>
    intro w es h hw
    cases hb : w.heap[r]? with
    | none =>
      refine ⟨_, _, 0, Ran.halted (h := .stuck "getObj: no such block") hw trivial fun T d => ?_⟩
      simp only [Sem.runT, show (tp w T d).heap[r]? = none from hb]
    | some o =>
      have ho := hw.obj r o hb h.1
      by_cases hcl : ∃ c t f, o = .cells c t f
      · obtain ⟨c, t, f, rfl⟩ := hcl
        refine ⟨_, _, 0, Ran.halted (h := .stuck "getObj: a row of cells") hw trivial fun T d => ?_⟩
        simp only [Sem.runT, show (tp w T d).heap[r]? = _ from hb]
      · obtain ⟨r', es', n, hr⟩ := ih o w (es.push ⟨.obj r, false, o.isChan⟩) (h.2 o ho) hw
        refine ⟨r', es', n, hr.step0 (Kept.refl w) (fun T d => ?_) fun he => evs_push he (.inr (.inl ⟨r, rfl, h.1, (Array.getElem?_eq_some_iff.1 hb).1, ho.notchan⟩))⟩
        simp only [Sem.runT, show (tp w T d).heap[r]? = _ from hb]
        cases o <;> first | rfl | exact absurd ⟨_, _, _, rfl⟩ hcl
  | setObj r o k ih =>
    intro w es h hw
    cases hb : w.heap[r]? with
    | none =>
      refine ⟨_, _, 0, Ran.halted (h := .stuck "setObj: no such block") hw trivial fun T d => ?_⟩
      simp only [Sem.runT, show (tp w T d).heap[r]? = none from hb]
    | some o' =>
      by_cases hcl : ∃ c t f, o' = .cells c t f
      · obtain ⟨c, t, f, rfl⟩ := hcl
        refine ⟨_, _, 0, Ran.halted (h := .stuck "setObj: a row of cells") hw trivial fun T d => ?_⟩
        simp only [Sem.runT, show (tp w T d).heap[r]? = _ from hb]
      · have hs := hw.set h.1 h.2.1
        obtain ⟨r', es', n, hr⟩ := ih _ (es.push ⟨.obj r, true, o.isChan⟩) h.2.2 hs.1
        refine ⟨r', es', n, hr.step0 hs.2 (fun T d => ?_) fun he => evs_push (fun x hx => (he x hx).mono hs.2.size) (.inr (.inl ⟨r, rfl, h.1, Nat.lt_of_lt_of_le (Array.getElem?_eq_some_iff.1 hb).1 hs.2.size, OkObj.notchan h.2.1⟩))⟩
        simp only [Sem.runT, show (tp w T d).heap[r]? = _ from hb]
        cases o' <;> first | rfl | exact absurd ⟨_, _, _, rfl⟩ hcl
  | choose q k ih =>
    intro w es h hw
    cases hf : q.forced with
    | true =>
      obtain ⟨r', es', n, hr⟩ := ih 0 w es (h _) hw
      refine ⟨r', es', n, hr.step0 (Kept.refl w) (fun T d => ?_) fun x => x⟩
      simp only [Sem.runT, hf, if_true]
    | false =>
      obtain ⟨r', es', n, hr⟩ := ih (q.cut (w.tape w.drawn q)) { w with drawn := w.drawn + 1 } es (h _) ⟨hw.low, hw.obj⟩
      refine ⟨r', es', n + 1, fun T d ha => ?_, ⟨hr.kept.tape, hr.kept.os, hr.kept.output, by rw [hr.kept.drawn]; show w.drawn + 1 + n = _; omega, hr.kept.size, hr.kept.keep⟩, hr.heap, hr.evs, hr.ok, hr.halt⟩
      have h0 : T d = w.tape w.drawn := by simpa using ha 0 (Nat.succ_pos _)
      have := hr.run T (d + 1) fun i hi => by rw [show d + 1 + i = d + (i + 1) by omega, ha (i + 1) (by omega)]; show _ = w.tape (w.drawn + 1 + i); rw [show w.drawn + 1 + i = w.drawn + (i + 1) by omega]
      rw [show d + 1 + n = d + (n + 1) by omega] at this
      simp only [Sem.runT, hf]
      show (k (q.cut (T d q))).runT P (tp w T (d + 1)) es = _
      rw [h0]
      exact this
  | sys c k ih => intro w es h; exact h.elim
  | program k ih =>
    intro w es h hw
    obtain ⟨r', es', n, hr⟩ := ih P w es h hw
    exact ⟨r', es', n, hr.step0 (Kept.refl w) (fun T d => rfl) fun x => x⟩
  | mark m k ih =>
    intro w es h hw
    obtain ⟨h1, h2⟩ := h
    subst h1
    obtain ⟨r', es', n, hr⟩ := ih w (es.push ⟨.mark .noRoom, false, true⟩) h2 hw
    exact ⟨r', es', n, hr.step0 (Kept.refl w) (fun T d => rfl) fun he => evs_push he (.inr (.inr rfl))⟩
  | halt h' => exact fun w es h hw => ⟨_, _, 0, Ran.halted hw h fun T d => rfl⟩
end

end Go.Proofs.Ytiodikflmijhkaa.Vow
/- A goroutine whose frames hold such values and run such code alone: its every step, whatever lies beneath its frames. No program is named here. -/
set_option linter.unusedSectionVars false
set_option linter.unusedVariables false
namespace Go.Proofs.Ytiodikflmijhkaa.Vow
open Go Go.Conc

def NextOk (S : Scope) : Next → Prop
  | .value v => Ok S v
  | .skip => True
  | .enter f args => S.F f ∧ ∀ v ∈ args, Ok S v
  | _ => False

def TmpsOk (S : Scope) (tmps : Array Value) : Prop := ∀ v ∈ tmps, Ok S v
def OpOk (S : Scope) (P : Program) (o : Oper) : Prop := ∀ fr : Frame, TmpsOk S fr.tmps → Cl S P (execOp fr.eval o) (NextOk S)

def CodeOk (S : Scope) (P : Program) : Code → Prop
  | .skip | .ret | .label _ | .exit _ | .refuse _ => True
  | .region _ ops _ => ∀ o ∈ ops, OpOk S P o
  | .seq a b => CodeOk S P a ∧ CodeOk S P b
  | .cond _ a b => CodeOk S P a ∧ CodeOk S P b
  | .block _ b | .loop b => CodeOk S P b
  | _ => False

def ItemOk (S : Scope) (P : Program) : Item → Prop
  | .code c => CodeOk S P c
  | .inBlock _ => True
  | .inLoop b => CodeOk S P b
  | .inRegion ops _ => ∀ o ∈ ops, OpOk S P o
  | _ => False

structure FrOk (S : Scope) (P : Program) (fr : Frame) : Prop where
  defers : fr.defers = []
  round : fr.roundOf = none
  tmps : TmpsOk S fr.tmps
  todo : ∀ it ∈ fr.todo, ItemOk S P it

structure ScopeOk (S : Scope) (P : Program) : Prop where
  body : ∀ f, S.F f → ∃ fn c, P.funcs[f]? = some fn ∧ fn.body = some c ∧ CodeOk S P c
  res : ∀ f fn, S.F f → P.funcs[f]? = some fn → ∀ tmps, TmpsOk S tmps → Cl S P (results fn tmps) (Ok S)

def pz : Item := .code (.refuse "")
def sx (k : List Item) (fr : Frame) : Frame := { fr with todo := fr.todo ++ k }
def Agr (w : World) (m : Nat) (T : Nat → Question → Nat) (d : Nat) : Prop := ∀ i, i < m → T (d + i) = w.tape (w.drawn + i)

structure Good (S : Scope) (w w' : World) (es : Array Event) (m : Nat) : Prop where
  kept : Kept S w w' m
  heap : HeapOk S w'
  evs : ∀ e ∈ es, EvV S w'.heap.size e

def Ended (s : GStep) : Prop := ∃ o w es, s = .ended o w es
def Calling (fr : Frame) : Prop := ∃ ops i rest k, fr.todo = .inRegion ops (i :: rest) :: k

inductive Out (S : Scope) (P : Program) (fr : Frame) (w : World) : Prop
  | go (fr' : Frame) (w' : World) (es : Array Event) (m : Nat) : FrOk S P fr' → fr'.fn = fr.fn → fr'.kind = fr.kind → Good S w w' es m →
      (∀ k cs T d, Agr w m T d → stepG P true (G (sx k fr) cs) (tp w T d) = .go (G (sx k fr') cs) (tp w' T (d + m)) es) → Out S P fr w
  | enter (f : FuncId) (args : Array Value) (w' : World) (es : Array Event) (m : Nat) : S.F f → (∀ v ∈ args, Ok S v) → Calling fr → Good S w w' es m →
      (∀ k cs T d, Agr w m T d → stepG P true (G (sx k fr) cs) (tp w T d) = .go (G (Frame.enter P f args .normal) (sx k fr :: cs)) (tp w' T (d + m)) es) → Out S P fr w
  | dead (m : Nat) : (∀ k cs T d, (k = [] ∨ k = [pz]) → Agr w m T d → Ended (stepG P true (G (sx k fr) cs) (tp w T d))) → Out S P fr w

section
variable {S : Scope} {P : Program} {fr : Frame} {w : World}

theorem good_refl (hw : HeapOk S w) : Good S w w #[] 0 := ⟨Kept.refl w, hw, by simp⟩

theorem Out.ctl {fr' : Frame} (hw : HeapOk S w) (h : FrOk S P fr') (h1 : fr'.fn = fr.fn) (h2 : fr'.kind = fr.kind) (hs : ∀ k cs w, stepG P true (G (sx k fr) cs) w = .go (G (sx k fr') cs) w) : Out S P fr w :=
  .go fr' w #[] 0 h h1 h2 (good_refl hw) fun k cs T d _ => hs k cs (tp w T d)

theorem exitTo_app (id : Nat) : ∀ {l k r : List Item}, exitTo id l = some r → exitTo id (l ++ k) = some (r ++ k)
  | [], _, _, h => by cases h
  | it :: l, k, r, h => by
    cases it with
    | inBlock id' =>
      simp only [exitTo] at h
      simp only [List.cons_append, exitTo]
      split at h
      · cases h; rename_i hh; simp [hh]
      · rename_i hh; simp only [hh]; exact exitTo_app id h
    | _ => simp only [exitTo] at h; simpa only [List.cons_append, exitTo] using exitTo_app id h
theorem exitTo_sub (id : Nat) : ∀ {l r : List Item}, exitTo id l = some r → ∀ it ∈ r, it ∈ l
  | [], _, h => by cases h
  | it :: l, r, h => by
    have key : exitTo id l = some r → ∀ x ∈ r, x ∈ it :: l := fun h x hx => List.mem_cons_of_mem _ (exitTo_sub id h x hx)
    cases it with
    | inBlock id' =>
      simp only [exitTo] at h
      split at h
      · cases h; exact fun x hx => List.mem_cons_of_mem _ hx
      · exact key h
    | _ => exact key (by simpa only [exitTo] using h)
theorem exitTo_none (id : Nat) : ∀ {l k : List Item}, exitTo id l = none → (k = [] ∨ k = [pz]) → exitTo id (l ++ k) = none
  | [], _, _, hk => by rcases hk with rfl | rfl <;> rfl
  | it :: l, k, h, hk => by
    cases it with
    | inBlock id' =>
      simp only [exitTo] at h
      simp only [List.cons_append, exitTo]
      split at h
      · cases h
      · rename_i hh; simp only [hh]; exact exitTo_none id h hk
    | _ => simp only [exitTo] at h; simpa only [List.cons_append, exitTo] using exitTo_none id h hk

theorem TmpsOk.set {tmps : Array Value} (h : TmpsOk S tmps) {v : Value} (hv : Ok S v) (d : Nat) : TmpsOk S (tmps.setIfInBounds d v) := by
  intro x hx
  rcases Array.mem_or_eq_of_mem_setIfInBounds hx with h1 | rfl
  · exact h x h1
  · exact hv

/-- What 'finish' leaves. -/
theorem finish_ok {ops : Array Oper} {i : Nat} {rest : List Nat} {r : List Item} (h : FrOk S P fr) (ht : fr.todo = .inRegion ops (i :: rest) :: r) {v : Value} (hv : Ok S v) :
    FrOk S P (fr.finish v) ∧ (fr.finish v).fn = fr.fn ∧ (fr.finish v).kind = fr.kind ∧ (fr.finish v).mode = fr.mode ∧ ∀ k, (sx k fr).finish v = sx k (fr.finish v) := by
  obtain ⟨fn, tmps, todo, defers, mode, kind, round⟩ := fr
  obtain ⟨h1, h2, h3, h4⟩ := h
  simp only at h1 h2 h3 h4 ht
  subst ht h1 h2
  refine ⟨⟨rfl, rfl, ?_, ?_⟩, rfl, rfl, rfl, fun k => rfl⟩
  · show TmpsOk S (match (ops[i]?).bind (·.dst) with | some d => tmps.setIfInBounds d v | none => tmps)
    cases (ops[i]?).bind (·.dst) with
    | none => exact h3
    | some d => exact h3.set hv d
  · intro it hit
    rcases List.mem_cons.1 hit with rfl | h
    · exact h4 (.inRegion ops (i :: rest)) (by simp)
    · exact h4 it (List.mem_cons_of_mem _ h)

set_option maxHeartbeats 1600000 in
/-- ████ A STEP OF A RUNNING FRAME's. ████ -/
theorem exec_step (h : FrOk S P fr) (hm : fr.mode = .run) {it : Item} {r : List Item} (ht : fr.todo = it :: r) (hw : HeapOk S w) : Out S P fr w := by
  have hit := h.todo it (by rw [ht]; simp)
  obtain ⟨fn, tmps, todo, defers, mode, kind, round⟩ := fr
  obtain ⟨h1, h2, h3, h4⟩ := h
  simp only at h1 h2 h3 h4 ht hm
  subst ht h1 h2 hm
  have hr : ∀ x ∈ r, ItemOk S P x := fun x hx => h4 x (List.mem_cons_of_mem _ hx)
  have to : ∀ todo', (∀ x ∈ todo', ItemOk S P x) → FrOk S P ⟨fn, tmps, todo', [], .run, kind, none⟩ := fun t ht => ⟨rfl, rfl, h3, ht⟩
  cases it with
  | code c =>
    cases c with
    | skip => exact .ctl hw (to r hr) rfl rfl fun k cs w => rfl
    | label l => exact .ctl hw (to r hr) rfl rfl fun k cs w => rfl
    | region id ops draw =>
      cases draw with
      | false => exact .ctl hw (to (.inRegion ops (List.range ops.size) :: r) (fun x hx => (List.mem_cons.1 hx).elim (fun e => e ▸ hit) (hr x))) rfl rfl fun k cs w => rfl
      | true =>
        refine .go ⟨fn, tmps, .inRegion ops (Region.schedule (P.follows .mixedOrders) ops (Question.cut (.order fn id) (w.tape w.drawn (.order fn id)))) :: r, [], .run, kind, none⟩ { w with drawn := w.drawn + 1 } #[] 1
          (to _ fun x hx => (List.mem_cons.1 hx).elim (fun e => by rw [e]; exact hit) (hr x)) rfl rfl ⟨⟨rfl, rfl, rfl, rfl, Nat.le_refl _, fun _ _ => rfl⟩, ⟨hw.low, hw.obj⟩, by simp⟩ fun k cs T d ha => ?_
        have h0 : T d = w.tape w.drawn := by simpa using ha 0 Nat.one_pos
        rw [← h0]
        rfl
    | seq a b => exact .ctl hw (to (.code a :: .code b :: r) (fun x hx => by
        rcases List.mem_cons.1 hx with rfl | hx
        · exact hit.1
        · rcases List.mem_cons.1 hx with rfl | hx
          · exact hit.2
          · exact hr x hx)) rfl rfl fun k cs w => rfl
    | cond c a b =>
      cases hc : (Frame.eval ⟨fn, tmps, [], [], .run, kind, none⟩ c) with
      | bool t =>
        have he : ∀ todo', Frame.eval ⟨fn, tmps, todo', [], .run, kind, none⟩ c = .bool t := fun todo' => by rw [← hc]; cases c <;> rfl
        refine .ctl (fr' := ⟨fn, tmps, .code (if t then a else b) :: r, [], .run, kind, none⟩) hw (to _ fun x hx => ?_) rfl rfl fun k cs w => ?_
        · rcases List.mem_cons.1 hx with rfl | hx
          · show CodeOk S P _
            cases t
            · exact hit.2
            · exact hit.1
          · exact hr x hx
        · show (match Frame.eval ⟨fn, tmps, .code (.cond c a b) :: r ++ k, [], .run, kind, none⟩ c with | .bool b' => _ | _ => _) = _
          rw [he]
          rfl
      | _ =>
        refine .dead 0 fun k cs T d _ _ => ?_
        have he : ∀ todo', Frame.eval ⟨fn, tmps, todo', [], .run, kind, none⟩ c = _ := fun todo' => Eq.trans (by cases c <;> rfl) hc
        show Ended (match Frame.eval ⟨fn, tmps, .code (.cond c a b) :: r ++ k, [], .run, kind, none⟩ c with | .bool b' => _ | _ => _)
        rw [he]
        exact ⟨_, _, _, rfl⟩
    | block id body => exact .ctl hw (to (.code body :: .inBlock id :: r) (fun x hx => by
        rcases List.mem_cons.1 hx with rfl | hx
        · exact hit
        · rcases List.mem_cons.1 hx with rfl | hx
          · trivial
          · exact hr x hx)) rfl rfl fun k cs w => rfl
    | loop body => exact .ctl hw (to (.code body :: .inLoop body :: r) (fun x hx => by
        rcases List.mem_cons.1 hx with rfl | hx
        · exact hit
        · rcases List.mem_cons.1 hx with rfl | hx
          · exact hit
          · exact hr x hx)) rfl rfl fun k cs w => rfl
    | rangeFunc f params assign body => exact hit.elim
    | exit id =>
      cases hx : exitTo id r with
      | some r' =>
        refine .ctl (fr' := ⟨fn, tmps, r', [], .run, kind, none⟩) hw (to r' fun x hx' => hr x (exitTo_sub id hx x hx')) rfl rfl fun k cs w => ?_
        have e := exitTo_app id (k := k) hx
        show ((exitTo id (r ++ k)).elim _ _ : GStep) = _
        rw [e]
        rfl
      | none =>
        refine .dead 0 fun k cs T d hk _ => ?_
        have e := exitTo_none id hx hk
        show Ended ((exitTo id (r ++ k)).elim _ _ : GStep)
        rw [e]
        exact ⟨_, _, _, rfl⟩
    | scope body => exact hit.elim
    | goto l => exact hit.elim
    | ret => exact .ctl (fr' := ⟨fn, tmps, .code .ret :: r, [], .returning, kind, none⟩) hw ⟨rfl, rfl, h3, h4⟩ rfl rfl fun k cs w => rfl
    | refuse why => exact .dead 0 fun k cs T d _ _ => ⟨_, _, _, rfl⟩
  | inBlock id => exact .ctl hw (to r hr) rfl rfl fun k cs w => rfl
  | inLoop body => exact .ctl hw (to (.code body :: .inLoop body :: r) (fun x hx => by
        rcases List.mem_cons.1 hx with rfl | hx
        · exact hit
        · rcases List.mem_cons.1 hx with rfl | hx
          · exact hit
          · exact hr x hx)) rfl rfl fun k cs w => rfl
  | inScope body => exact hit.elim
  | inRegion ops todo =>
    cases todo with
    | nil => exact .ctl hw (to r hr) rfl rfl fun k cs w => rfl
    | cons i rest =>
      obtain ⟨fr, hfr⟩ : ∃ fr : Frame, fr = ⟨fn, tmps, .inRegion ops (i :: rest) :: r, [], .run, kind, none⟩ := ⟨_, rfl⟩
      have hok : FrOk S P fr := hfr ▸ ⟨rfl, rfl, h3, h4⟩
      have htd : fr.todo = .inRegion ops (i :: rest) :: r := by rw [hfr]
      rw [← hfr]
      cases hwt : ((ops[i]?).map (Region.wanted · (yielded ops tmps))).getD false with
      | false =>
        obtain ⟨f1, f2, f3, f4, f5⟩ := finish_ok hok htd (v := undef) ok_undef
        refine .ctl hw f1 f2 f3 fun k cs w => ?_
        rw [← f5 k]
        subst hfr
        show (if ((ops[i]?).map (Region.wanted · (yielded ops tmps))).getD false then _ else _ : GStep) = _
        rw [hwt]
        rfl
      | true =>
        obtain ⟨o, ho⟩ : ∃ o, ops[i]? = some o := by
          cases h : ops[i]? with
          | none => rw [h] at hwt; cases hwt
          | some o => exact ⟨o, rfl⟩
        have hst : ∀ k cs w, stepG P true (G (sx k fr) cs) w = stepG.apply P true (sx k fr) cs none (execOp fr.eval o) w := fun k cs w => by
          have he : Frame.eval (sx k fr) = fr.eval := funext fun x => by cases x <;> rfl
          rw [← he]
          subst hfr
          show (if ((ops[i]?).map (Region.wanted · (yielded ops tmps))).getD false then stepG.oper P true _ cs none w else _ : GStep) = _
          rw [hwt]
          simp only [if_true, stepG.oper, Frame.oper?, sx, List.cons_append, ho]
        have hcl := hit o (Array.mem_of_getElem? ho) fr hok.tmps
        obtain ⟨res, es', m, hR⟩ := hcl.runs _ w #[] hw
        obtain ⟨ev, hev⟩ : ∃ ev : Array Event, ev = seen P fn (if kind == .early then #[] else es') := ⟨_, rfl⟩
        have hes : ∀ e ∈ ev, EvV S (rw_ res).heap.size e := fun e he => by
          rw [hev] at he
          have := mem_seen he
          split at this
          · simp at this
          · exact hR.evs (by simp) e this
        have hgood : Good S w (rw_ res) ev m := ⟨hR.kept, hR.heap, hes⟩
        cases res with
        | ok a w' =>
          have ha := hR.ok a w' rfl
          cases a with
          | value v =>
            obtain ⟨f1, f2, f3, f4, f5⟩ := finish_ok hok htd (v := v) ha
            refine .go (fr.finish v) w' ev m f1 f2 f3 hgood fun k cs T d hag => ?_
            rw [hst, ← f5 k, hev]
            subst hfr
            simp only [stepG.apply, if_true, hR.run T d hag, rtp]
            simp [GStep.after, G, sx, Frame.finish]
          | skip =>
            obtain ⟨f1, f2, f3, f4, f5⟩ := finish_ok hok htd (v := undef) ok_undef
            refine .go (fr.finish undef) w' ev m f1 f2 f3 hgood fun k cs T d hag => ?_
            rw [hst, ← f5 k, hev]
            subst hfr
            simp only [stepG.apply, if_true, hR.run T d hag, rtp]
            simp [GStep.after, G, sx, Frame.finish]
          | enter f args =>
            refine .enter f args w' ev m ha.1 ha.2 ⟨ops, i, rest, r, htd⟩ hgood fun k cs T d hag => ?_
            rw [hst, hev]
            subst hfr
            simp only [stepG.apply, if_true, hR.run T d hag, rtp]
            simp [GStep.after, G, sx]
          | _ => exact ha.elim
        | halt h w' =>
          have ha := hR.halt h w' rfl
          cases h with
          | panic v =>
            refine .go (fr.raise [{ v, recovered := false }]) w' ev m ?_ ?_ ?_ hgood fun k cs T d hag => ?_
            · subst hfr; exact ⟨rfl, rfl, h3, h4⟩
            · subst hfr; rfl
            · subst hfr; rfl
            · rw [hst, hev]
              subst hfr
              simp only [stepG.apply, if_true, hR.run T d hag, rtp]
              simp [GStep.after, G, sx, Frame.raise]
          | stuck why =>
            refine .dead m fun k cs T d _ hag => ?_
            rw [hst]
            subst hfr
            simp only [stepG.apply, if_true, hR.run T d hag, rtp]
            exact ⟨_, _, _, rfl⟩
          | unsupported u =>
            refine .dead m fun k cs T d _ hag => ?_
            rw [hst]
            subst hfr
            simp only [stepG.apply, if_true, hR.run T d hag, rtp]
            cases u with
            | initOrder g => exact absurd rfl (ha g)
            | _ => exact ⟨_, _, _, rfl⟩
          | _ => exact ha.elim
  | inRangeFunc l => exact hit.elim
  | endRangeFunc l => exact hit.elim
  | beginRound => exact hit.elim
  | call d wr res sv => exact hit.elim
  | extern row args => exact hit.elim
end

end Go.Proofs.Ytiodikflmijhkaa.Vow
/- From a run alone, on every tape, to a tree of steps, whatever is drawn between them. No program is named here. -/
set_option linter.unusedSectionVars false
set_option linter.unusedVariables false
namespace Go.Proofs.Ytiodikflmijhkaa.Vow
open Go Go.Conc

/-- The frames over the bottom one: 'up' is what lies beneath the frame, the bottom one last. -/
def cx (k : List Item) (cs : List Frame) : List Frame → List Frame
  | [] => cs
  | [b] => sx k b :: cs
  | f :: g :: r => f :: cx k cs (g :: r)
def ext (k : List Item) (cs : List Frame) (fr : Frame) : List Frame → Goroutine
  | [] => G (sx k fr) cs
  | c :: r => G fr (cx k cs (c :: r))
def OkSt (S : Scope) (P : Program) : Frame → List Frame → Prop
  | fr, [] => FrOk S P fr
  | fr, c :: r => FrOk S P fr ∧ S.F fr.fn ∧ fr.kind = .normal ∧ Calling c ∧ c.mode = .run ∧ OkSt S P c r
def Stopped (fr : Frame) (up : List Frame) : Prop := up = [] ∧ (fr.todo = [] ∨ fr.mode ≠ .run)

section
variable {S : Scope} {P : Program} {fr : Frame} {up : List Frame} {w : World}

theorem OkSt.top (h : OkSt S P fr up) : FrOk S P fr := by
  cases up with
  | nil => exact h
  | cons c r => exact h.1
theorem OkSt.swap {fr' : Frame} (h : OkSt S P fr up) (h' : FrOk S P fr') (e1 : fr'.fn = fr.fn) (e2 : fr'.kind = fr.kind) : OkSt S P fr' up := by
  cases up with
  | nil => exact h'
  | cons c r => exact ⟨h', by rw [e1]; exact h.2.1, by rw [e2]; exact h.2.2.1, h.2.2.2⟩

inductive Step1 (S : Scope) (P : Program) (fr : Frame) (up : List Frame) (w : World) : Prop
  | go (fr' : Frame) (up' : List Frame) (w' : World) (es : Array Event) (m : Nat) : OkSt S P fr' up' → Good S w w' es m →
      (∀ k cs T d, Agr w m T d → stepG P true (ext k cs fr up) (tp w T d) = .go (ext k cs fr' up') (tp w' T (d + m)) es) → Step1 S P fr up w
  | dead (m : Nat) : (∀ k, (k = [] ∨ k = [pz]) → ∀ cs T d, Agr w m T d → Ended (stepG P true (ext k cs fr up) (tp w T d))) → Step1 S P fr up w

theorem sx_nil (fr : Frame) : sx [] fr = fr := by simp [sx]
theorem ext_cons (k : List Item) (cs : List Frame) (fr c : Frame) (r : List Frame) : ext k cs fr (c :: r) = G fr (cx k cs (c :: r)) := rfl
theorem ext_top (k : List Item) (cs : List Frame) (fr : Frame) (up : List Frame) : ∃ k' cs', (∀ fr, ext k cs fr up = G (sx k' fr) cs') ∧ (k' = k ∨ k' = []) := by
  cases up with
  | nil => exact ⟨k, cs, fun _ => rfl, .inl rfl⟩
  | cons c r => exact ⟨[], cx k cs (c :: r), fun fr => by rw [sx_nil]; rfl, .inr rfl⟩
theorem ext_enter (k : List Item) (cs : List Frame) (fr g : Frame) (up : List Frame) : ext k cs g (fr :: up) = (match up with | [] => G g (sx k fr :: cs) | c :: r => G g (fr :: cx k cs (c :: r))) := by cases up <;> rfl

theorem enter_ok (hS : ScopeOk S P) {f : FuncId} {args : Array Value} (hf : S.F f) (ha : ∀ v ∈ args, Ok S v) : FrOk S P (Frame.enter P f args .normal) := by
  obtain ⟨fn, c, h1, h2, h3⟩ := hS.body f hf
  refine ⟨rfl, rfl, fun v hv => ?_, fun it hit => ?_⟩
  · simp only [Frame.enter, Array.mem_append] at hv
    rcases hv with h | h
    · exact ha v h
    · rw [Array.mem_replicate] at h; rw [h.2]; exact ok_undef
  · simp only [Frame.enter, h1, Option.bind_some, h2, Option.getD_some, List.mem_singleton] at hit
    subst hit
    exact h3

theorem raise_sx (k : List Item) (c : Frame) (vs : List PanicEntry) : (sx k c).raise vs = sx k (c.raise vs) := by
  obtain ⟨fn, tmps, todo, defers, mode, kind, round⟩ := c
  cases mode <;> rfl
theorem raise_ok {c : Frame} (h : FrOk S P c) (vs : List PanicEntry) : FrOk S P (c.raise vs) ∧ (c.raise vs).fn = c.fn ∧ (c.raise vs).kind = c.kind := by
  obtain ⟨fn, tmps, todo, defers, mode, kind, round⟩ := c
  obtain ⟨h1, h2, h3, h4⟩ := h
  cases mode <;> exact ⟨⟨h1, h2, h3, h4⟩, rfl, rfl⟩
theorem finish_mode {ops : Array Oper} {i : Nat} {rest : List Nat} {r : List Item} (c : Frame) (ht : c.todo = .inRegion ops (i :: rest) :: r) (v : Value) : (c.finish v).mode = c.mode := by
  obtain ⟨fn, tmps, todo, defers, mode, kind, round⟩ := c
  simp only at ht; subst ht; rfl

set_option maxHeartbeats 1600000 in
/-- ████ A STEP. ████ -/
theorem step_st (hS : ScopeOk S P) (h : OkSt S P fr up) (hw : HeapOk S w) (hn : ¬ Stopped fr up) : Step1 S P fr up w := by
  have htop := h.top
  cases hm : fr.mode with
  | run =>
    cases ht : fr.todo with
    | nil =>
      cases up with
      | nil => exact absurd ⟨rfl, .inl ht⟩ hn
      | cons c r =>
        obtain ⟨fn, tmps, todo, defers, mode, kind, round⟩ := fr
        obtain ⟨h1, h2, h3, h4⟩ := htop
        simp only at h1 h2 h3 h4 ht hm
        subst ht h1 h2 hm
        exact .go ⟨fn, tmps, [], [], .returning, kind, none⟩ (c :: r) w #[] 0 (h.swap ⟨rfl, rfl, h3, h4⟩ rfl rfl) (good_refl hw) fun k cs T d _ => rfl
    | cons it r =>
      rcases exec_step htop hm ht hw with ⟨fr', w', es, m, h1, h2, h3, h4, h5⟩ | ⟨f, args, w', es, m, h1, h2, h3, h4, h5⟩ | ⟨m, h1⟩
      · refine .go fr' up w' es m (h.swap h1 h2 h3) h4 fun k cs T d ha => ?_
        obtain ⟨k', cs', he, _⟩ := ext_top k cs fr up
        rw [he, he]
        exact h5 k' cs' T d ha
      · refine .go (Frame.enter P f args .normal) (fr :: up) w' es m ⟨enter_ok hS h1 h2, h1, rfl, h3, hm, h⟩ h4 fun k cs T d ha => ?_
        rw [ext_enter]
        cases up with
        | nil => exact h5 k cs T d ha
        | cons c r =>
          have := h5 [] (cx k cs (c :: r)) T d ha
          rw [sx_nil] at this
          exact this
      · refine .dead m fun k hk cs T d ha => ?_
        obtain ⟨k', cs', he, hk'⟩ := ext_top k cs fr up
        rw [he]
        exact h1 k' cs' T d (hk'.elim (fun e => by rw [e]; exact hk) .inl) ha
  | returning =>
    cases up with
    | nil => exact absurd ⟨rfl, .inr (by rw [hm]; simp)⟩ hn
    | cons c r =>
      obtain ⟨_, hF, hk, ⟨ops, i, rest, r', hc⟩, hcm, hup⟩ := h
      obtain ⟨fn, c0, hb, hb2, _⟩ := hS.body _ hF
      obtain ⟨res, es', m, hR⟩ := (hS.res _ fn hF hb fr.tmps htop.tmps).runs _ w #[] hw
      obtain ⟨ev, hev⟩ : ∃ ev : Array Event, ev = seen P fr.fn es' := ⟨_, rfl⟩
      have hes : ∀ e ∈ ev, EvV S (rw_ res).heap.size e := fun e he => by
        rw [hev] at he
        exact hR.evs (by simp) e (mem_seen he)
      have hst : ∀ cs T d, Agr w m T d → stepG P true (G fr cs) (tp w T d) = GStep.after ev (match rtp res T (d + m) with
          | .ok v w => doReturn P true fr cs none v w
          | .halt (.stuck s) w => .ended (.stuck s (fr.pos P)) w
          | .halt _ w => .ended (.stuck "return: the result variables cannot be read" (fr.pos P)) w) := fun cs T d ha => by
        have := hR.run T d ha
        simp only [G, stepG, hm, unwind, htop.defers, hb, this, hev]
        rfl
      cases res with
      | ok v w' =>
        obtain ⟨f1, f2, f3, f4, f5⟩ := finish_ok hup.top hc (v := v) (hR.ok v w' rfl)
        refine .go (c.finish v) r w' ev m (hup.swap f1 f2 f3) ⟨hR.kept, hR.heap, hes⟩ fun k cs T d ha => ?_
        rw [ext_cons, hst _ T d ha]
        cases r with
        | nil => simp [rtp, cx, doReturn, hk, ext, ← f5, G, GStep.after]
        | cons g r => simp [rtp, cx, doReturn, hk, ext, G, GStep.after]
      | halt hh w' =>
        refine .dead m fun k _ cs T d ha => ?_
        rw [ext_cons, hst _ T d ha]
        cases hh <;> exact ⟨_, _, _, rfl⟩
  | panicking chain =>
    cases up with
    | nil => exact absurd ⟨rfl, .inr (by rw [hm]; simp)⟩ hn
    | cons c r =>
      obtain ⟨_, hF, hk, ⟨ops, i, rest, r', hc⟩, hcm, hup⟩ := h
      obtain ⟨fn, c0, hb, hb2, _⟩ := hS.body _ hF
      have hcat : fr.catches P = false := by simp [Frame.catches, hb]
      obtain ⟨f1, f2, f3⟩ := raise_ok hup.top chain
      refine .go (c.raise chain) r w #[] 0 (hup.swap f1 f2 f3) (good_refl hw) fun k cs T d ha => ?_
      rw [ext_cons]
      cases r with
      | nil => simp [G, stepG, hm, unwind, htop.defers, hcat, cx, ext, raise_sx]
      | cons g r => simp [G, stepG, hm, unwind, htop.defers, hcat, cx, ext]

/-! ### the tree -/
/-- From here on every step goes on, whatever is drawn between the steps, until a stop. -/
inductive Tree (S : Scope) (P : Program) (Q : Frame → World → Prop) : Frame → List Frame → World → Prop
  | stop (fr : Frame) (w : World) (T : Nat → Question → Nat) (d : Nat) : Q fr (tp w T d) → HeapOk S w → FrOk S P fr → Tree S P Q fr [] w
  | step (fr : Frame) (up : List Frame) (w : World) (f : Nat → Frame) (u : Nat → List Frame) (v : Nat → World) (es : Nat → Array Event) (m : Nat → Nat) :
      (∀ d k cs, stepG P true (ext k cs fr up) (tp w w.tape d) = .go (ext k cs (f d) (u d)) (v d) (es d)) → (∀ d, Good S (tp w w.tape d) (v d) (es d) (m d)) → (∀ d, Tree S P Q (f d) (u d) (v d)) → Tree S P Q fr up w

/-- Beneath the frames: a frame that neither a result nor a panic brings on. -/
def pc : Frame := { fn := 0, tmps := #[], todo := [pz], defers := [{ target := .nil, args := #[] }], mode := .run, kind := .normal }

theorem step_solo_ended {a : Goroutine} {o : Outcome} {w w' : World} {es : Array Event} (hs : a = G a.frame a.callers) (h : stepG P true a w = .ended o w' es) : step P (solo a w) = .ended o w' := by
  rw [hs] at h ⊢
  exact step_lone_ended (fr := a.frame) (cs := a.callers) (by rw [show stepG P true { frame := a.frame, callers := a.callers, status := .running, dying := none } w = _ from h]; rfl)
theorem runN_ended {m : Machine} {o : Outcome} {w' : World} (h : step P m = .ended o w') (n : Nat) (m' : Machine) : runN P (n + 1) m ≠ .next m' := by
  simp [runN, h]
theorem ext_G (k : List Item) (cs : List Frame) (fr : Frame) (up : List Frame) : ext k cs fr up = G (ext k cs fr up).frame (ext k cs fr up).callers := by cases up <;> rfl
theorem ext_run (k : List Item) (cs : List Frame) (fr : Frame) (up : List Frame) : (ext k cs fr up).status = .running := by cases up <;> rfl

/-- Behind the bottom frame's leaving the run alone ends at once. -/
theorem stopped_next {fr : Frame} (hst : fr.todo = [] ∨ fr.mode ≠ .run) (hd : fr.defers = []) (hr : fr.roundOf = none) (w : World) :
    (∃ o w', step P (solo (G (sx [pz] fr) [pc]) w) = .ended o w') ∨ ∃ g w', step P (solo (G (sx [pz] fr) [pc]) w) = .next (solo g w') ∧ g.callers = [] ∧ ∃ o w'', step P (solo g w') = .ended o w'' := by
  obtain ⟨fn, tmps, todo, defers, mode, kind, round⟩ := fr
  simp only at hst hd hr
  subst hd hr
  have E : ∀ {a : Goroutine} {w : World}, a = G a.frame a.callers → Ended (stepG P true a w) → ∃ o w', step P (solo a w) = .ended o w' := fun ha ⟨o, w', es, h⟩ => ⟨o, w', step_solo_ended ha h⟩
  cases mode with
  | run =>
    rcases hst with h | h
    · subst h
      exact .inl (E rfl ⟨_, _, _, rfl⟩)
    · exact absurd rfl h
  | returning =>
    have key : ∀ (v : Value) (w' : World) (es : Array Event), stepG P true (G (sx [pz] ⟨fn, tmps, todo, [], .returning, kind, none⟩) [pc]) w = GStep.after es (doReturn P true (sx [pz] ⟨fn, tmps, todo, [], .returning, kind, none⟩) [pc] none v w') →
        (∃ o w', step P (solo (G (sx [pz] ⟨fn, tmps, todo, [], .returning, kind, none⟩) [pc]) w) = .ended o w') ∨ ∃ g w', step P (solo (G (sx [pz] ⟨fn, tmps, todo, [], .returning, kind, none⟩) [pc]) w) = .next (solo g w') ∧ g.callers = [] ∧ ∃ o w'', step P (solo g w') = .ended o w'' := by
      intro v w' es h
      refine .inr ⟨G pc [], w', ?_, rfl, E rfl ⟨_, _, _, rfl⟩⟩
      have : stepG P true (G (sx [pz] ⟨fn, tmps, todo, [], .returning, kind, none⟩) [pc]) w = .go (G pc []) w' (es ++ #[]) := by
        rw [h]
        cases kind <;> rfl
      exact step_solo_go rfl this
    cases hf : P.funcs[fn]? with
    | none => exact key (tmps.getD 0 undef) w #[] (by simp [G, sx, stepG, unwind, hf, GStep.after, doReturn, pc]; cases kind <;> rfl)
    | some f =>
      cases hr : (results f tmps).runT P w #[] with
      | mk res es =>
        cases res with
        | ok v w' => exact key v w' (seen P fn es) (by simp only [G, sx, stepG, unwind, hf, hr])
        | halt hh w' =>
          refine .inl (E rfl ?_)
          simp only [G, sx, stepG, unwind, hf, hr]
          cases hh <;> exact ⟨_, _, _, rfl⟩
  | panicking chain =>
    by_cases hc : (sx [pz] ⟨fn, tmps, todo, [], .panicking chain, kind, none⟩).catches P = true
    · refine .inl (E rfl ?_)
      simp only [G, stepG, sx, unwind] at hc ⊢
      simp only [hc, if_true]
      exact ⟨_, _, _, rfl⟩
    · refine .inr ⟨G (pc.raise chain) [], w, ?_, rfl, E rfl ⟨_, _, _, rfl⟩⟩
      refine step_solo_go (es := #[]) rfl ?_
      simp only [G, stepG, sx, unwind] at hc ⊢
      simp only [hc]
      rfl
end

end Go.Proofs.Ytiodikflmijhkaa.Vow
/- A run alone that comes to its stop on every tape: the tree. No program is named here. -/
set_option linter.unusedSectionVars false
set_option linter.unusedVariables false
namespace Go.Proofs.Ytiodikflmijhkaa.Vow
open Go Go.Conc

structure St where
  fr : Frame
  up : List Frame
  w : World

section
variable {S : Scope} {P : Program} {Q : Frame → World → Prop}

structure Sim (S : Scope) (P : Program) (s s' : St) (d m : Nat) (es : Array Event) : Prop where
  ok : OkSt S P s'.fr s'.up
  good : Good S (tp s.w s.w.tape d) s'.w es m
  go : ∀ k cs T d', Agr (tp s.w s.w.tape d) m T d' → stepG P true (ext k cs s.fr s.up) (tp s.w T d') = .go (ext k cs s'.fr s'.up) (tp s'.w T (d' + m)) es
structure Bad (S : Scope) (P : Program) (Q : Frame → World → Prop) (s : St) : Prop where
  ok : OkSt S P s.fr s.up
  heap : HeapOk S s.w
  bad : ¬ Tree S P Q s.fr s.up s.w
def Dead (P : Program) (s : St) (d m : Nat) : Prop := ∀ k, (k = [] ∨ k = [pz]) → ∀ cs T d', Agr (tp s.w s.w.tape d) m T d' → Ended (stepG P true (ext k cs s.fr s.up) (tp s.w T d'))
def Rel (S : Scope) (P : Program) (Q : Frame → World → Prop) (s : St) (x : St × Nat × Nat) : Prop :=
  (Bad S P Q x.1 ∧ ∃ es, Sim S P s x.1 x.2.1 x.2.2 es) ∨ (x.1 = s ∧ Dead P s x.2.1 x.2.2)

theorem Sim.self {s s' : St} {d m : Nat} {es : Array Event} (h : Sim S P s s' d m es) (k : List Item) (cs : List Frame) : stepG P true (ext k cs s.fr s.up) (tp s.w s.w.tape d) = .go (ext k cs s'.fr s'.up) s'.w es := by
  have := h.go k cs s.w.tape d fun i hi => rfl
  have e : tp s'.w s.w.tape (d + m) = s'.w := by
    have h1 : s.w.tape = s'.w.tape := h.good.kept.tape.symm
    have h2 : d + m = s'.w.drawn := h.good.kept.drawn.symm
    rw [h1, h2]; rfl
  rwa [e] at this

theorem bad_next (hS : ScopeOk S P) {s : St} (h : Bad S P Q s) (hn : ¬ Stopped s.fr s.up) : ∃ x, Rel S P Q s x := by
  apply Classical.byContradiction
  intro hno
  apply h.bad
  have key : ∀ d, ∃ x : St × Array Event × Nat, Sim S P s x.1 d x.2.2 x.2.1 ∧ Tree S P Q x.1.fr x.1.up x.1.w := by
    intro d
    rcases step_st (w := tp s.w s.w.tape d) hS h.ok ⟨h.heap.low, h.heap.obj⟩ hn with ⟨fr', up', w', es, m, h1, h2, h3⟩ | ⟨m, h1⟩
    · have hs : Sim S P s ⟨fr', up', w'⟩ d m es := ⟨h1, h2, h3⟩
      by_cases ht : Tree S P Q fr' up' w'
      · exact ⟨(⟨fr', up', w'⟩, es, m), hs, ht⟩
      · exact absurd ⟨(⟨fr', up', w'⟩, d, m), .inl ⟨⟨h1, h2.heap, ht⟩, es, hs⟩⟩ hno
    · exact absurd ⟨(s, d, m), .inr ⟨rfl, h1⟩⟩ hno
  have ch := fun d => Classical.choose_spec (key d)
  exact .step s.fr s.up s.w (fun d => (Classical.choose (key d)).1.fr) (fun d => (Classical.choose (key d)).1.up) (fun d => (Classical.choose (key d)).1.w) (fun d => (Classical.choose (key d)).2.1) (fun d => (Classical.choose (key d)).2.2)
    (fun d k cs => (ch d).1.self k cs) (fun d => (ch d).1.good) fun d => (ch d).2

open Classical in
noncomputable def nxt (S : Scope) (P : Program) (Q : Frame → World → Prop) (s : St) : St × Nat × Nat := if h : ∃ x, Rel S P Q s x then Classical.choose h else (s, 0, 0)
noncomputable def sq (S : Scope) (P : Program) (Q : Frame → World → Prop) (s : St) : Nat → St
  | 0 => s
  | n + 1 => (nxt S P Q (sq S P Q s n)).1
noncomputable def oq (S : Scope) (P : Program) (Q : Frame → World → Prop) (s : St) : Nat → Nat
  | 0 => 0
  | n + 1 => oq S P Q s n + (nxt S P Q (sq S P Q s n)).2.2
noncomputable def tq (S : Scope) (P : Program) (Q : Frame → World → Prop) (s : St) (x : Nat) : Question → Nat :=
  let n := Classical.epsilon fun n => oq S P Q s n ≤ x ∧ x < oq S P Q s (n + 1)
  s.w.tape ((nxt S P Q (sq S P Q s n)).2.1 + (x - oq S P Q s n))

theorem oq_mono (s : St) : ∀ {a b : Nat}, a ≤ b → oq S P Q s a ≤ oq S P Q s b := by
  intro a b h
  induction h with
  | refl => exact Nat.le_refl _
  | step _ ih => exact Nat.le_trans ih (Nat.le_add_right _ _)
theorem tq_at (s : St) (n i : Nat) (hi : i < (nxt S P Q (sq S P Q s n)).2.2) : tq S P Q s (oq S P Q s n + i) = s.w.tape ((nxt S P Q (sq S P Q s n)).2.1 + i) := by
  have h0 : oq S P Q s n ≤ oq S P Q s n + i ∧ oq S P Q s n + i < oq S P Q s (n + 1) := ⟨Nat.le_add_right _ _, Nat.add_lt_add_left hi _⟩
  have h1 := Classical.epsilon_spec (p := fun k => oq S P Q s k ≤ oq S P Q s n + i ∧ oq S P Q s n + i < oq S P Q s (k + 1)) ⟨n, h0⟩
  obtain ⟨k, hk⟩ : ∃ k, k = Classical.epsilon fun k => oq S P Q s k ≤ oq S P Q s n + i ∧ oq S P Q s n + i < oq S P Q s (k + 1) := ⟨_, rfl⟩
  rw [← hk] at h1
  have e : k = n := by
    rcases Nat.lt_trichotomy k n with h | h | h
    · have := oq_mono (S := S) (P := P) (Q := Q) s (show k + 1 ≤ n from h); omega
    · exact h
    · have := oq_mono (S := S) (P := P) (Q := Q) s (show n + 1 ≤ k from h); omega
  unfold tq
  simp only
  rw [← hk, e, Nat.add_sub_cancel_left]

theorem nxt_spec {s : St} (h : ∃ x, Rel S P Q s x) : Rel S P Q s (nxt S P Q s) := by
  unfold nxt
  rw [dif_pos h]
  exact Classical.choose_spec h
theorem nxt_tape (s : St) : (nxt S P Q s).1.w.tape = s.w.tape := by
  by_cases h : ∃ x, Rel S P Q s x
  · rcases nxt_spec h with ⟨_, es, hs⟩ | ⟨h1, _⟩
    · exact hs.good.kept.tape
    · rw [h1]
  · unfold nxt; rw [dif_neg h]
theorem sq_tape (s : St) : ∀ n, (sq S P Q s n).w.tape = s.w.tape
  | 0 => rfl
  | n + 1 => (nxt_tape _).trans (sq_tape s n)

theorem cx_len (k : List Item) (cs : List Frame) : ∀ (c : Frame) (r : List Frame), (cx k cs (c :: r)).length = r.length + 1 + cs.length
  | c, [] => by simp [cx, Nat.add_comm]
  | c, g :: r => by simp only [cx, List.length_cons]; rw [cx_len k cs g r]; omega

theorem solo_inj {a b : Goroutine} {w w' : World} (h : solo a w = solo b w') : a = b ∧ w = w' := by
  simp only [solo, Machine.mk.injEq, Array.mk.injEq, List.cons.injEq, and_true] at h
  exact ⟨h.2, h.1⟩

/-- What a run alone comes to, on every tape. -/
def Lone (P : Program) (Q : Frame → World → Prop) (fr : Frame) (w : World) : Prop :=
  ∀ T d, ∃ fr' w', Steps P (solo (G (sx [pz] fr) [pc]) (tp w T d)) (solo (G (sx [pz] fr') [pc]) w') ∧ Q fr' w'

set_option maxHeartbeats 800000 in
/-- ████ FROM A RUN ALONE TO THE TREE. ████ -/
theorem tree_of_lone (hS : ScopeOk S P) {fr : Frame} {w : World} (hf : FrOk S P fr) (hw : HeapOk S w) (hL : Lone P Q fr w) : Tree S P Q fr [] w := by
  apply Classical.byContradiction
  intro hT
  obtain ⟨s, hs⟩ : ∃ s : St, s = ⟨fr, [], w⟩ := ⟨_, rfl⟩
  have hb : Bad S P Q s := hs ▸ ⟨hf, hw, hT⟩
  obtain ⟨fr', w', ⟨N, hN⟩, hq⟩ := hL (tq S P Q s) 0
  have claim : ∀ n, n ≤ N → Bad S P Q (sq S P Q s n) ∧ runN P n (solo (G (sx [pz] fr) [pc]) (tp w (tq S P Q s) 0)) = .next (solo (ext [pz] [pc] (sq S P Q s n).fr (sq S P Q s n).up) (tp (sq S P Q s n).w (tq S P Q s) (oq S P Q s n))) := by
    intro n
    induction n with
    | zero => exact fun _ => ⟨hb, by rw [hs]; rfl⟩
    | succ n ih =>
      intro hn
      obtain ⟨hbad, hrun⟩ := ih (by omega)
      obtain ⟨k, hk⟩ : ∃ k, N = n + (k + 1) := ⟨N - n - 1, by omega⟩
      have hrest : runN P (k + 1) (solo (ext [pz] [pc] (sq S P Q s n).fr (sq S P Q s n).up) (tp (sq S P Q s n).w (tq S P Q s) (oq S P Q s n))) = .next (solo (G (sx [pz] fr') [pc]) w') := by
        rw [hk, runN_add, hrun] at hN
        exact hN
      by_cases hst : Stopped (sq S P Q s n).fr (sq S P Q s n).up
      · exfalso
        obtain ⟨hup, hst⟩ := hst
        have hok := hbad.ok
        rw [hup] at hrest hok
        rcases stopped_next (P := P) hst hok.defers hok.round (tp (sq S P Q s n).w (tq S P Q s) (oq S P Q s n)) with ⟨o, w1, h1⟩ | ⟨g, w1, h1, h2, o, w2, h3⟩
        · exact runN_ended h1 k _ hrest
        · cases k with
          | zero =>
            have : runN P 1 (solo (ext [pz] [pc] (sq S P Q s n).fr []) (tp (sq S P Q s n).w (tq S P Q s) (oq S P Q s n))) = .next (solo g w1) := by simp only [runN, ext, h1]
            rw [this] at hrest
            simp only [Stepped.next.injEq] at hrest
            have := (solo_inj hrest).1
            rw [this] at h2
            cases h2
          | succ k =>
            have : runN P (k + 1 + 1) (solo (ext [pz] [pc] (sq S P Q s n).fr []) (tp (sq S P Q s n).w (tq S P Q s) (oq S P Q s n))) = runN P (k + 1) (solo g w1) := by
              rw [runN]; simp only [ext, h1]
            rw [this] at hrest
            exact runN_ended h3 k _ hrest
      · have hr := nxt_spec (bad_next hS hbad hst)
        have hagr : Agr (tp (sq S P Q s n).w (sq S P Q s n).w.tape (nxt S P Q (sq S P Q s n)).2.1) (nxt S P Q (sq S P Q s n)).2.2 (tq S P Q s) (oq S P Q s n) := fun i hi => by
          rw [tq_at s n i hi]
          show _ = (sq S P Q s n).w.tape _
          rw [sq_tape]
          rfl
        rcases hr with ⟨hb', es, hsim⟩ | ⟨_, hdead⟩
        · refine ⟨hb', ?_⟩
          have hgo := hsim.go [pz] [pc] _ _ hagr
          have h1 := step_solo_go (ext_run _ _ _ _) hgo
          rw [runN_add, hrun]
          simp only [runN, h1]
          rfl
        · exfalso
          obtain ⟨o, w1, es, he⟩ := hdead [pz] (.inr rfl) [pc] _ _ hagr
          exact runN_ended (step_solo_ended (ext_G _ _ _ _) he) k _ hrest
  obtain ⟨hbad, hrun⟩ := claim N (Nat.le_refl _)
  rw [hN] at hrun
  simp only [Stepped.next.injEq] at hrun
  obtain ⟨h1, h2⟩ := solo_inj hrun
  have hup : (sq S P Q s N).up = [] := by
    cases hu : (sq S P Q s N).up with
    | nil => rfl
    | cons c r =>
      rw [hu] at h1
      have h3 : [pc] = cx [pz] [pc] (c :: r) := congrArg Goroutine.callers h1
      have := congrArg List.length h3
      rw [cx_len] at this
      simp at this
  have hfr : (sq S P Q s N).fr = fr' := by
    rw [hup] at h1
    have h3 : sx [pz] fr' = sx [pz] (sq S P Q s N).fr := congrArg Goroutine.frame h1
    have h4 := congrArg Frame.todo h3
    have h5 : fr'.todo = (sq S P Q s N).fr.todo := List.append_cancel_right h4
    revert h3 h5
    generalize (sq S P Q s N).fr = x
    obtain ⟨a1, a2, a3, a4, a5, a6, a7⟩ := x
    obtain ⟨b1, b2, b3, b4, b5, b6, b7⟩ := fr'
    intro h3 h5
    simp only [sx, Frame.mk.injEq] at h3 h5 ⊢
    exact ⟨h3.1.symm, h3.2.1.symm, h5.symm, h3.2.2.2.1.symm, h3.2.2.2.2.1.symm, h3.2.2.2.2.2.1.symm, h3.2.2.2.2.2.2.symm⟩
  apply hbad.bad
  have hok := hbad.ok
  rw [hup] at hok ⊢
  exact .stop _ _ _ _ (by rw [hfr, ← h2]; exact hq) hbad.heap hok
end

end Go.Proofs.Ytiodikflmijhkaa.Vow
/- A callee alone: its contract says where it leaves; so it does in company. No program is named here. -/
set_option linter.unusedSectionVars false
set_option linter.unusedVariables false
set_option linter.unusedSimpArgs false
namespace Go.Proofs.Ytiodikflmijhkaa.Vow
open Go Go.Conc

section
variable {S : Scope} {P : Program} {fr : Frame} {up : List Frame} {w : World} {Q : Frame → World → Prop}
/-- Behind the bottom frame's leaving the run alone ends at once. -/
theorem stopped_leave {fr : Frame} (hst : fr.mode ≠ .run) (hd : fr.defers = []) (hr : fr.roundOf = none) (w : World) :
    (∃ o w', step P (solo (G fr [pc]) w) = .ended o w') ∨ ∃ g w', step P (solo (G fr [pc]) w) = .next (solo g w') ∧ g.callers = [] ∧ ∃ o w'', step P (solo g w') = .ended o w'' := by
  obtain ⟨fn, tmps, todo, defers, mode, kind, round⟩ := fr
  simp only at hst hd hr
  subst hd hr
  have E : ∀ {a : Goroutine} {w : World}, a = G a.frame a.callers → Ended (stepG P true a w) → ∃ o w', step P (solo a w) = .ended o w' := fun ha ⟨o, w', es, h⟩ => ⟨o, w', step_solo_ended ha h⟩
  cases mode with
  | run =>
    exact absurd rfl hst
  | returning =>
    have key : ∀ (v : Value) (w' : World) (es : Array Event), stepG P true (G (⟨fn, tmps, todo, [], .returning, kind, none⟩ : Frame) [pc]) w = GStep.after es (doReturn P true (⟨fn, tmps, todo, [], .returning, kind, none⟩ : Frame) [pc] none v w') →
        (∃ o w', step P (solo (G (⟨fn, tmps, todo, [], .returning, kind, none⟩ : Frame) [pc]) w) = .ended o w') ∨ ∃ g w', step P (solo (G (⟨fn, tmps, todo, [], .returning, kind, none⟩ : Frame) [pc]) w) = .next (solo g w') ∧ g.callers = [] ∧ ∃ o w'', step P (solo g w') = .ended o w'' := by
      intro v w' es h
      refine .inr ⟨G pc [], w', ?_, rfl, E rfl ⟨_, _, _, rfl⟩⟩
      have : stepG P true (G (⟨fn, tmps, todo, [], .returning, kind, none⟩ : Frame) [pc]) w = .go (G pc []) w' (es ++ #[]) := by
        rw [h]
        cases kind <;> rfl
      exact step_solo_go rfl this
    cases hf : P.funcs[fn]? with
    | none => exact key (tmps.getD 0 undef) w #[] (by simp [G, sx, stepG, unwind, hf, GStep.after, doReturn, pc]; cases kind <;> rfl)
    | some f =>
      cases hr : (results f tmps).runT P w #[] with
      | mk res es =>
        cases res with
        | ok v w' => exact key v w' (seen P fn es) (by simp only [G, sx, stepG, unwind, hf, hr])
        | halt hh w' =>
          refine .inl (E rfl ?_)
          simp only [G, sx, stepG, unwind, hf, hr]
          cases hh <;> exact ⟨_, _, _, rfl⟩
  | panicking chain =>
    by_cases hc : (⟨fn, tmps, todo, [], .panicking chain, kind, none⟩ : Frame).catches P = true
    · refine .inl (E rfl ?_)
      simp only [G, stepG, sx, unwind] at hc ⊢
      simp only [hc, if_true]
      exact ⟨_, _, _, rfl⟩
    · refine .inr ⟨G (pc.raise chain) [], w, ?_, rfl, E rfl ⟨_, _, _, rfl⟩⟩
      refine step_solo_go (es := #[]) rfl ?_
      simp only [G, stepG, sx, unwind] at hc ⊢
      simp only [hc]
      rfl

/-- It has come to its end, or is one step ahead of it. -/
def QC (Q : Frame → World → Prop) (fr : Frame) (w : World) : Prop := Q fr w ∨ (fr.todo = [] ∧ fr.mode = .run ∧ Q { fr with mode := .returning } w)
def LoneC (P : Program) (Q : Frame → World → Prop) (fr : Frame) (w : World) : Prop :=
  ∀ T d, ∃ fr' w', Steps P (solo (G fr [pc]) (tp w T d)) (solo (G fr' [pc]) w') ∧ Q fr' w'

set_option maxHeartbeats 800000 in
/-- ████ FROM A CALL ALONE TO THE TREE: the callee's own frame, nothing beneath it but poison. ████ -/
theorem ext0 (fr : Frame) : ext [] [pc] fr [] = G fr [pc] := by
  show G (sx [] fr) [pc] = _
  rw [sx_nil]
set_option maxHeartbeats 800000 in
theorem tree_of_call (hS : ScopeOk S P) {fr : Frame} {w : World} (hf : FrOk S P fr) (hw : HeapOk S w) (hL : LoneC P Q fr w) : Tree S P (QC Q) fr [] w := by
  apply Classical.byContradiction
  intro hT
  obtain ⟨s, hs⟩ : ∃ s : St, s = ⟨fr, [], w⟩ := ⟨_, rfl⟩
  have hb : Bad S P (QC Q) s := hs ▸ ⟨hf, hw, hT⟩
  obtain ⟨fr', w', ⟨N, hN⟩, hq⟩ := hL (tq S P (QC Q) s) 0
  have claim : ∀ n, n ≤ N → Bad S P (QC Q) (sq S P (QC Q) s n) ∧ runN P n (solo (G fr [pc]) (tp w (tq S P (QC Q) s) 0)) = .next (solo (ext [] [pc] (sq S P (QC Q) s n).fr (sq S P (QC Q) s n).up) (tp (sq S P (QC Q) s n).w (tq S P (QC Q) s) (oq S P (QC Q) s n))) := by
    intro n
    induction n with
    | zero =>
      refine fun _ => ⟨hb, ?_⟩
      rw [hs]
      show Stepped.next _ = Stepped.next (solo (G (sx [] fr) [pc]) _)
      rw [sx_nil]
      rfl
    | succ n ih =>
      intro hn
      obtain ⟨hbad, hrun⟩ := ih (by omega)
      obtain ⟨k, hk⟩ : ∃ k, N = n + (k + 1) := ⟨N - n - 1, by omega⟩
      have hrest : runN P (k + 1) (solo (ext [] [pc] (sq S P (QC Q) s n).fr (sq S P (QC Q) s n).up) (tp (sq S P (QC Q) s n).w (tq S P (QC Q) s) (oq S P (QC Q) s n))) = .next (solo (G fr' [pc]) w') := by
        rw [hk, runN_add, hrun] at hN
        exact hN
      by_cases hst : Stopped (sq S P (QC Q) s n).fr (sq S P (QC Q) s n).up
      · exfalso
        obtain ⟨hup, hst⟩ := hst
        have hok := hbad.ok
        have hnt := hbad.bad
        have hhp := hbad.heap
        rw [hup] at hrest hok hnt
        rw [ext0] at hrest
        have leave : ∀ (x : Frame) (W : World), x.mode ≠ .run → x.defers = [] → x.roundOf = none → ∀ k, runN P (k + 1) (solo (G x [pc]) W) ≠ .next (solo (G fr' [pc]) w') := fun x W hm hd hr k hrun => by
          rcases stopped_leave (P := P) hm hd hr W with ⟨o, w1, h1⟩ | ⟨g, w1, h1, h2, o, w2, h3⟩
          · exact runN_ended h1 k _ hrun
          · cases k with
            | zero =>
              have : runN P 1 (solo (G x [pc]) W) = .next (solo g w1) := by simp only [runN, h1]
              rw [this] at hrun
              simp only [Stepped.next.injEq] at hrun
              have := (solo_inj hrun).1
              rw [this] at h2
              cases h2
            | succ k =>
              have : runN P (k + 1 + 1) (solo (G x [pc]) W) = runN P (k + 1) (solo g w1) := by rw [runN]; simp only [h1]
              rw [this] at hrun
              exact runN_ended h3 k _ hrun
        by_cases hm : (sq S P (QC Q) s n).fr.mode = .run
        · have htd := hst.resolve_right fun h => h hm
          have h1 : ∀ W, step P (solo (G (sq S P (QC Q) s n).fr [pc]) W) = .next (solo (G { (sq S P (QC Q) s n).fr with mode := .returning } [pc]) W) := fun W => by
            have hd := hok.defers
            have hr := hok.round
            revert hm htd hd hr
            generalize (sq S P (QC Q) s n).fr = x
            obtain ⟨fn, tmps, todo, defers, mode, kind, round⟩ := x
            intro hm htd hd hr
            simp only at hm htd hd hr
            subst hm htd hd hr
            exact step_solo_go (es := #[]) rfl rfl
          cases k with
          | zero =>
            have : runN P 1 (solo (G (sq S P (QC Q) s n).fr [pc]) (tp (sq S P (QC Q) s n).w (tq S P (QC Q) s) (oq S P (QC Q) s n))) = .next (solo (G { (sq S P (QC Q) s n).fr with mode := .returning } [pc]) (tp (sq S P (QC Q) s n).w (tq S P (QC Q) s) (oq S P (QC Q) s n))) := by simp only [runN, h1]
            rw [this] at hrest
            simp only [Stepped.next.injEq] at hrest
            obtain ⟨e1, e2⟩ := solo_inj hrest
            have e3 : { (sq S P (QC Q) s n).fr with mode := .returning } = fr' := congrArg Goroutine.frame e1
            exact hnt (.stop _ _ _ _ (.inr ⟨htd, hm, by rw [e3, e2]; exact hq⟩) hhp hok)
          | succ k =>
            have : runN P (k + 1 + 1) (solo (G (sq S P (QC Q) s n).fr [pc]) (tp (sq S P (QC Q) s n).w (tq S P (QC Q) s) (oq S P (QC Q) s n))) = runN P (k + 1) (solo (G { (sq S P (QC Q) s n).fr with mode := .returning } [pc]) (tp (sq S P (QC Q) s n).w (tq S P (QC Q) s) (oq S P (QC Q) s n))) := by rw [runN]; simp only [h1]
            rw [this] at hrest
            exact leave { (sq S P (QC Q) s n).fr with mode := .returning } _ (by simp) (by exact hok.defers) (by exact hok.round) k hrest
        · exact leave _ _ hm hok.defers hok.round k hrest
      · have hr := nxt_spec (bad_next hS hbad hst)
        have hagr : Agr (tp (sq S P (QC Q) s n).w (sq S P (QC Q) s n).w.tape (nxt S P (QC Q) (sq S P (QC Q) s n)).2.1) (nxt S P (QC Q) (sq S P (QC Q) s n)).2.2 (tq S P (QC Q) s) (oq S P (QC Q) s n) := fun i hi => by
          rw [tq_at s n i hi]
          show _ = (sq S P (QC Q) s n).w.tape _
          rw [sq_tape]
          rfl
        rcases hr with ⟨hb', es, hsim⟩ | ⟨_, hdead⟩
        · refine ⟨hb', ?_⟩
          have hgo := hsim.go [] [pc] _ _ hagr
          have h1 := step_solo_go (ext_run _ _ _ _) hgo
          rw [runN_add, hrun]
          simp only [runN, h1]
          rfl
        · exfalso
          obtain ⟨o, w1, es, he⟩ := hdead [] (.inl rfl) [pc] _ _ hagr
          exact runN_ended (step_solo_ended (ext_G _ _ _ _) he) k _ hrest
  obtain ⟨hbad, hrun⟩ := claim N (Nat.le_refl _)
  rw [hN] at hrun
  simp only [Stepped.next.injEq] at hrun
  obtain ⟨h1, h2⟩ := solo_inj hrun
  have hup : (sq S P (QC Q) s N).up = [] := by
    cases hu : (sq S P (QC Q) s N).up with
    | nil => rfl
    | cons c r =>
      rw [hu] at h1
      have h3 : [pc] = cx [] [pc] (c :: r) := congrArg Goroutine.callers h1
      have := congrArg List.length h3
      rw [cx_len] at this
      simp at this
  have hfr : (sq S P (QC Q) s N).fr = fr' := by
    rw [hup] at h1
    rw [ext0] at h1
    exact (congrArg Goroutine.frame h1).symm
  apply hbad.bad
  have hok := hbad.ok
  rw [hup] at hok ⊢
  exact .stop _ _ _ _ (by rw [hfr, ← h2]; exact .inl hq) hbad.heap hok
end

end Go.Proofs.Ytiodikflmijhkaa.Vow
/- The operations, given such values: first part, the pieces that they share. No program is named here. -/
set_option linter.unusedSectionVars false
set_option linter.unusedVariables false
namespace Go.Proofs.Ytiodikflmijhkaa.Vow
open Go Go.Conc

section
variable {S : Scope} {P : Program} {α β : Type} {Φ : α → Prop}

theorem cl_pure {a : α} (h : Φ a) : Cl S P (pure a) Φ := h
theorem cl_stuck {why : String} : Cl S P (stuck why : Sem α) Φ := trivial
theorem cl_panic {v : Value} : Cl S P (goPanic v : Sem α) Φ := trivial
theorem cl_unsup {u : Unsupported} (h : ∀ g, u ≠ .initOrder g) : Cl S P (unsupported u : Sem α) Φ := h
theorem cl_noEntry {s : String} : Cl S P (unsupported (.noEntry s) : Sem α) Φ := fun _ e => by cases e
theorem cl_unsafe {s : String} : Cl S P (unsupported (.unsafePointer s) : Sem α) Φ := fun _ e => by cases e
theorem cl_observed : Cl S P (unsupported .addressObserved : Sem α) Φ := fun _ e => by cases e
theorem cl_limit {s : String} : Cl S P (unsupported (.resourceLimit s) : Sem α) Φ := fun _ e => by cases e
theorem cl_program {f : Program → Sem α} (h : Cl S P (f P) Φ) : Cl S P (program >>= f) Φ := h
theorem cl_choose {q : Question} {f : Nat → Sem α} (h : ∀ n, Cl S P (f n) Φ) : Cl S P (choose q >>= f) Φ := h
theorem cl_shape {r : Nat} {f : Option (TypeId × Nat) → Sem α} (h : ∀ s, Cl S P (f s) Φ) : Cl S P (shape r >>= f) Φ := h
theorem cl_frozen {a : Addr} {f : Bool → Sem α} (h : ∀ s, Cl S P (f s) Φ) : Cl S P (frozen a >>= f) Φ := h
theorem cl_getObj {r : Nat} {f : Obj → Sem α} (hr : ¬ S.D r) (h : ∀ o, OkObj S o → Cl S P (f o) Φ) : Cl S P (getObj r >>= f) Φ := ⟨hr, h⟩
theorem cl_load {a : Addr} {m : Mode} (h : ¬ S.D a.block) : Cl S P (load a m) (Ok S) := ⟨h, fun v hv => hv⟩
theorem cl_store {a : Addr} {v : Value} {m : Mode} (h : ¬ S.D a.block) (hv : Ok S v) : Cl S P (store a v m) (fun _ => True) := ⟨h, hv, trivial⟩
theorem cl_ite {c : Prop} [Decidable c] {s t : Sem α} (h1 : c → Cl S P s Φ) (h2 : ¬ c → Cl S P t Φ) : Cl S P (if c then s else t) Φ := by
  split
  · exact h1 ‹_›
  · exact h2 ‹_›
theorem cl_seq {s : Sem Unit} {f : Unit → Sem α} (h : Cl S P s fun _ => True) (hf : Cl S P (f ()) Φ) : Cl S P (s >>= f) Φ := h.bind fun _ _ => hf
theorem cl_askRoom {n : Nat} : Cl S P (askRoom n) (fun _ => True) := by
  unfold askRoom
  exact cl_ite (fun _ => ⟨rfl, trivial⟩) fun _ => trivial

theorem add_block (a : Addr) (n : Nat) : (a.add n).block = a.block := by unfold Addr.add; split <;> rfl

theorem cl_underlying (t : TypeId) : Cl S P (underlying t) (fun d => P.underlying t = some d) := by
  show Cl S P (match P.underlying t with | some d => pure d | none => stuck _) _
  split
  · rename_i h; exact h
  · exact cl_stuck
theorem cl_typeInfo (t : TypeId) : Cl S P (typeInfo t) (fun i => P.info? t = some i) := by
  show Cl S P (match P.info? t with | some i => pure i | none => stuck _) _
  split
  · rename_i h; exact h
  · exact cl_stuck
theorem cl_sizeOf (t : TypeId) : Cl S P (sizeOf t) (fun _ => True) := (cl_typeInfo t).bind fun _ _ => trivial
theorem cl_isAgg (t : TypeId) : Cl S P (isAgg t) (fun _ => True) := (cl_underlying t).bind fun d _ => by
  cases d <;> exact cl_pure trivial
/-- The zero value of the type holds no address. -/
def ZeroOk (S : Scope) (P : Program) (t : TypeId) : Prop := ∀ i v, P.info? t = some i → i.zero = some v → Ok S v
theorem cl_zero {t : TypeId} (h : ZeroOk S P t) : Cl S P (zeroValue t) (Ok S) := (cl_typeInfo t).bind fun i hi => by
  show Cl S P (match i.zero with | some v => pure v | none => unsupported _) _
  split
  · rename_i v hv; exact h i v hi hv
  · exact cl_limit

theorem cl_loadCellsFrom {a : Addr} (h : ¬ S.D a.block) : ∀ (n i : Nat) (acc : Array Value), (∀ v ∈ acc, Ok S v) → Cl S P (loadCellsFrom a i n acc) (fun cs => ∀ v ∈ cs, Ok S v)
  | 0, i, acc, ha => ha
  | n + 1, i, acc, ha => by
    refine (cl_load (by rw [add_block]; exact h)).bind fun v hv => cl_loadCellsFrom h n (i + 1) _ fun x hx => ?_
    rcases Array.mem_push.1 hx with h1 | rfl
    · exact ha x h1
    · exact hv
theorem cl_loadCells {a : Addr} (h : ¬ S.D a.block) (n : Nat) : Cl S P (loadCells a n) (fun cs => ∀ v ∈ cs, Ok S v) := cl_loadCellsFrom h n 0 #[] (by simp)
theorem cl_storeCells {a : Addr} (h : ¬ S.D a.block) : ∀ (vs : List Value) (i : Nat), (∀ v ∈ vs, Ok S v) → Cl S P (storeCells a vs i) (fun _ => True)
  | [], _, _ => trivial
  | v :: r, i, hv => (cl_store (by rw [add_block]; exact h) (hv v (by simp))).bind fun _ _ => cl_storeCells h r (i + 1) fun x hx => hv x (by simp [hx])
theorem cl_loadVar {t : TypeId} {a : Addr} (h : ¬ S.D a.block) : Cl S P (loadVar t a) (Ok S) := (cl_isAgg t).bind fun b _ => by
  refine cl_ite (fun _ => ?_) fun _ => cl_load h
  exact (cl_sizeOf t).bind fun n _ => (cl_loadCells h n).bind fun cs hcs => ok_agg.2 hcs
theorem cl_storeVar {t : TypeId} {a : Addr} (h : ¬ S.D a.block) {v : Value} (hv : Ok S v) : Cl S P (storeVar t a v) (fun _ => True) := (cl_sizeOf t).bind fun n _ => by
  have key : Cl S P (storeCells a v.cells.toList) (fun _ => True) := cl_storeCells h _ 0 fun x hx => ok_cells hv x (Array.mem_toList_iff.1 hx)
  exact cl_ite (fun _ => cl_seq cl_stuck key) fun _ => key
theorem cl_newRow {t : TypeId} {cs : Array Value} (h : ∀ v ∈ cs, Ok S v) : Cl S P (newRow t cs) (fun a => ¬ S.D a.block) := ⟨h, fun r hr => hr⟩
theorem cl_newVar {t : TypeId} {v : Value} (h : Ok S v) : Cl S P (newVar t v) (fun a => ¬ S.D a.block) := cl_newRow (ok_cells h)
theorem mem_extract {cs : Array Value} {a b : Nat} {v : Value} (h : v ∈ cs.extract a b) : v ∈ cs := by
  obtain ⟨i, hi, rfl⟩ := Array.mem_iff_getElem.1 h
  rw [Array.getElem_extract]
  exact Array.getElem_mem _
theorem cl_part {t : TypeId} {cs : Array Value} {off : Nat} (h : ∀ v ∈ cs, Ok S v) : Cl S P (part t cs off) (Ok S) := (cl_isAgg t).bind fun b _ => by
  refine cl_ite (fun _ => ?_) fun _ => ?_
  · exact (cl_sizeOf t).bind fun n _ => ok_agg.2 fun v hv => h v (mem_extract hv)
  · split
    · rename_i v hv; exact h v (Array.mem_of_getElem? hv)
    · exact cl_stuck

theorem cl_rtPanic (e : RuntimeError) (h : ∀ a b c d, e ≠ .typeAssertion a b c d) (h2 : e ≠ .panicNil) : Cl S P (runtimePanic e : Sem α) Φ := by
  cases e with
  | typeAssertion a b c d => exact absurd rfl (h a b c d)
  | panicNil => exact absurd rfl h2
  | _ => trivial
theorem cl_error {s : String} : Cl S P (runtimePanic (.error s) : Sem α) Φ := trivial
theorem cl_nilDeref : Cl S P (runtimePanic .nilDeref : Sem α) Φ := trivial
theorem cl_bounds {k : IntKind} {x y : Int} {c : BoundsCode} : Cl S P (boundsPanic k x y c : Sem α) Φ := by
  unfold boundsPanic
  refine cl_ite (fun _ => ?_) fun _ => ?_
  · exact fun n => trivial
  · exact trivial
theorem cl_asIntOf (v : Value) : Cl S P (asIntOf v) (fun _ => True) := by
  cases v with
  | int k n => exact cl_pure trivial
  | pointer a => cases a <;> first | exact cl_stuck | exact cl_observed
  | _ => exact cl_stuck
theorem cl_asInt (v : Value) : Cl S P (asInt v) (fun _ => True) := (cl_asIntOf v).bind fun _ _ => trivial
theorem cl_asBool (v : Value) : Cl S P (asBool v) (fun _ => True) := by cases v <;> trivial
theorem cl_asAgg {v : Value} (h : Ok S v) : Cl S P (asAgg v) (fun cs => ∀ x ∈ cs, Ok S x) := by
  cases v with
  | agg cs => exact ok_agg.1 h
  | _ => exact cl_stuck
theorem cl_asAddr {v : Value} (h : Ok S v) : Cl S P (asAddr v) (fun a => ¬ S.D a.block) := by
  cases v with
  | pointer a =>
    cases a with
    | none => exact cl_nilDeref
    | some a => exact ok_pointer.1 h
  | _ => exact cl_stuck
theorem cl_sureAddr {v : Value} (h : Ok S v) : Cl S P (Instr.sureAddr v) (fun a => ¬ S.D a.block) := by
  cases v with
  | pointer a =>
    cases a with
    | none => exact cl_stuck
    | some a => exact ok_pointer.1 h
  | _ => exact cl_stuck

theorem cl_viewAt {r : Nat} (h : ¬ S.D r) : Cl S P (viewAt r) (fun x => x = none) := by
  unfold viewAt
  refine cl_shape fun s => cl_ite (fun _ => rfl) fun _ => cl_getObj h fun o ho => ?_
  cases o <;> first | exact cl_pure rfl | exact ho.elim
theorem cl_numberAt {r : Nat} (h : ¬ S.D r) : Cl S P (numberAt r) (fun x => ∀ a b, x = some (a, b) → ¬ S.D a.block) := by
  unfold numberAt
  refine cl_shape fun s => cl_ite (fun _ => cl_pure fun _ _ e => by cases e) fun _ => cl_getObj h fun o ho => ?_
  cases o with
  | number a lost =>
    refine cl_pure fun x y e => ?_
    simp only [Option.some.injEq, Prod.mk.injEq] at e
    obtain ⟨rfl, rfl⟩ := e
    exact ho
  | cells c t f => exact cl_pure fun x y e => nomatch e
  | _ => exact ho.elim
theorem cl_behind {a : Addr} (h : ¬ S.D a.block) : Cl S P (behindNumber a) (fun x => ¬ S.D x.1.block) := (cl_numberAt h).bind fun x hx => by
  cases x with
  | none => exact h
  | some x => exact hx x.1 x.2 rfl
theorem cl_noView {a : Addr} (h : ¬ S.D a.block) : Cl S P (noView a) (fun _ => True) := (cl_viewAt h).bind fun x hx => by
  subst hx
  exact trivial
theorem cl_byteOf {a : Addr} (h : ¬ S.D a.block) : Cl S P (byteOf a) (fun _ => True) := by
  unfold byteOf
  split
  · exact trivial
  · refine cl_program (cl_seq (cl_noView h) (cl_shape fun s => ?_))
    split
    · refine cl_ite (fun _ => trivial) fun _ => ?_
      split
      · exact trivial
      · exact cl_stuck
    · exact cl_stuck
end

end Go.Proofs.Ytiodikflmijhkaa.Vow
/- The operations, given such values: second part, each of them. No program is named here. -/
set_option linter.unusedSectionVars false
set_option linter.unusedVariables false
namespace Go.Proofs.Ytiodikflmijhkaa.Vow
open Go Go.Conc

section
variable {S : Scope} {P : Program}

theorem cl_shift {op : BinOp} {k yk : IntKind} {x y : Int} : Cl S P (Op.shift op k x yk y) (Ok S) := by
  unfold Op.shift
  refine cl_ite (fun _ => cl_error) fun _ => ?_
  dsimp only
  cases op <;> first | exact cl_pure (.int _ _) | exact cl_stuck
theorem cl_intArith {op : BinOp} {k : IntKind} {x y : Int} : Cl S P (Op.intArith op k x y) (Ok S) := by
  unfold Op.intArith
  cases op <;> first | exact cl_pure (.int _ _) | exact cl_stuck
theorem cl_intDiv {op : BinOp} {k : IntKind} {x y : Int} : Cl S P (Op.intDiv op k x y) (Ok S) := by
  unfold Op.intDiv
  refine cl_ite (fun _ => cl_error) fun _ => ?_
  cases op <;> first | exact cl_pure (.int _ _) | exact cl_stuck
theorem cl_intBits {op : BinOp} {k : IntKind} {x y : Int} : Cl S P (Op.intBits op k x y) (Ok S) := by
  unfold Op.intBits
  cases op <;> first | exact cl_pure (.int _ _) | exact cl_stuck
theorem cl_intCmp {op : BinOp} {x y : Int} : Cl S P (Op.intCmp op x y) (Ok S) := by
  unfold Op.intCmp
  cases op <;> first | exact cl_pure (.bool _) | exact cl_stuck
theorem cl_stringOp {op : BinOp} {x y : ByteArray} : Cl S P (Op.stringOp op x y) (Ok S) := by
  unfold Op.stringOp
  cases op <;> first | exact cl_pure (.bool _) | exact cl_stuck | exact cl_ite (fun _ => cl_limit) fun _ => cl_pure (.string _)

theorem cl_unsafeAdd {t : TypeId} {x y : Value} (hx : Ok S x) : Cl S P (Builtin.unsafeAdd_ #[] t #[x, y]) (Ok S) := by
  unfold Builtin.unsafeAdd_
  cases x with
  | pointer ptr =>
    refine (cl_asInt y).bind fun n _ => ?_
    refine cl_ite (fun _ => ?_) fun _ => ?_
    · cases ptr with
      | none => exact cl_unsafe
      | some a => exact (cl_viewAt (ok_pointer.1 hx)).bind fun v hv => by subst hv; exact hx
    · refine cl_ite (fun _ => cl_seq cl_unsafe ?_) fun _ => ?_
      all_goals
        cases ptr with
        | none => exact cl_unsafe
        | some a =>
          refine cl_shape fun s => ?_
          split
          · refine cl_program ?_
            split
            · exact cl_pure (ok_pointer.2 (show ¬ S.D a.block from ok_pointer.1 hx))
            · exact cl_unsafe
          · exact cl_unsafe
  | _ => exact cl_stuck

theorem cl_asNumber {a : Addr} {b : Bool} (h : ¬ S.D a.block) : Cl S P (asNumber a b) (Ok S) := ⟨h, fun r hr => ok_pointer.2 hr⟩
theorem cl_movedNumber {t : TypeId} {x y : Value} (hx : Ok S x) : Cl S P (movedNumber t x y) (Ok S) := by
  unfold movedNumber
  refine (cl_underlying t).bind fun d _ => ?_
  have h1 : Cl S P (Builtin.unsafeAdd_ #[] t #[x, y]) (Ok S) := cl_unsafeAdd hx
  cases x with
  | pointer p =>
    cases p with
    | none => exact cl_ite (fun _ => cl_seq cl_unsafe h1) fun _ => h1
    | some n =>
      have key : Cl S P (behindNumber n >>= fun p => Builtin.unsafeAdd_ #[] t #[.pointer (some p.1), y] >>= fun v => match v with
          | .pointer (some b) => asNumber b p.2
          | v => pure v) (Ok S) := by
        refine (cl_behind (ok_pointer.1 hx)).bind fun p hp => ?_
        refine (cl_unsafeAdd (ok_pointer.2 hp)).bind fun v hv => ?_
        split
        · exact cl_asNumber (ok_pointer.1 hv)
        · exact hv
      exact cl_ite (fun _ => cl_seq cl_unsafe key) fun _ => key
  | _ => exact cl_ite (fun _ => cl_seq cl_unsafe h1) fun _ => h1
theorem cl_movedPointer {t : TypeId} {x y : Value} (hx : Ok S x) : Cl S P (movedPointer t x y) (Ok S) := by
  unfold movedPointer
  split
  · refine (cl_numberAt (ok_pointer.1 hx)).bind fun p hp => ?_
    exact cl_ite (fun _ => cl_seq cl_observed (cl_unsafeAdd hx)) fun _ => cl_unsafeAdd hx
  · exact cl_unsafeAdd hx
theorem cl_twoPlaces {a b : Addr} (ha : ¬ S.D a.block) (hb : ¬ S.D b.block) : Cl S P (Op.twoPlaces a b) (fun _ => True) := by
  unfold Op.twoPlaces
  have key : Cl S P (do pure (← byteOf a, ← byteOf b) : Sem (Nat × Nat)) (fun _ => True) := (cl_byteOf ha).bind fun _ _ => (cl_byteOf hb).bind fun _ _ => trivial
  refine cl_program (cl_ite (fun _ => cl_seq cl_observed key) fun _ => key)
theorem cl_addrSub {k : IntKind} {a b : Addr} (ha : ¬ S.D a.block) (hb : ¬ S.D b.block) : Cl S P (Op.addrSub k a b) (Ok S) := (cl_twoPlaces ha hb).bind fun _ _ => cl_pure (.int _ _)
theorem cl_addrCmp {op : BinOp} {a b : Addr} (ha : ¬ S.D a.block) (hb : ¬ S.D b.block) : Cl S P (Op.addrCmp op a b) (Ok S) := (cl_twoPlaces ha hb).bind fun _ _ => by
  cases op <;> first | exact cl_pure (.bool _) | exact cl_observed
theorem cl_addrMod {k : IntKind} {a : Addr} {n : Int} (ha : ¬ S.D a.block) : Cl S P (Op.addrMod k a n) (Ok S) := by
  unfold Op.addrMod
  refine cl_shape fun s => ?_
  split
  · refine (cl_typeInfo _).bind fun i _ => ?_
    have key : Cl S P (do pure (.int k ((← byteOf a) % n.toNat : Nat)) : Sem Value) (Ok S) := (cl_byteOf ha).bind fun _ _ => cl_pure (.int _ _)
    exact cl_ite (fun _ => cl_seq cl_observed key) fun _ => key
  · exact cl_observed

/-- Types whose values '==' compares as they stand. -/
def Plain (P : Program) (t : TypeId) : Prop := (∃ k, P.underlying t = some (.int k)) ∨ P.underlying t = some .bool ∨ P.underlying t = some .string

theorem cl_equal {t : TypeId} {x y : Value} (ht : Plain P t) (hx : Ok S x) (hy : Ok S y) : Cl S P (Op.equal t x y) (fun _ => True) := by
  show Cl S P (Op.equalIn (9999 + 1) t x y) _
  unfold Op.equalIn
  refine (cl_underlying t).bind fun d hd => ?_
  rcases ht with ⟨k, h⟩ | h | h
  · rw [h] at hd; cases hd
    cases x with
    | int k a =>
      cases y with
      | int k' b => exact cl_ite (fun _ => trivial) fun _ => cl_stuck
      | pointer p =>
        cases p with
        | none => exact cl_observed
        | some p =>
          by_cases ha : a = 0
          · subst ha; exact trivial
          · dsimp only
            split <;> first | trivial | exact cl_observed | exact cl_stuck
      | _ => exact cl_stuck
    | pointer p =>
      cases p with
      | none => cases y <;> first | exact cl_observed | exact cl_stuck
      | some p =>
        cases y with
        | pointer q =>
          cases q with
          | none => exact cl_observed
          | some q =>
            refine (cl_behind (ok_pointer.1 hx)).bind fun a ha => (cl_behind (ok_pointer.1 hy)).bind fun b hb => cl_program ?_
            refine cl_ite (fun _ => (cl_byteOf ha).bind fun _ _ => (cl_byteOf hb).bind fun _ _ => trivial) fun _ => ?_
            refine (cl_typeInfo t).bind fun i _ => ?_
            split
            · exact cl_ite (fun _ => trivial) fun _ => cl_observed
            · exact cl_observed
        | int k' b =>
          dsimp only
          split <;> first | trivial | exact cl_observed | exact cl_stuck
        | _ => exact cl_observed
    | _ =>
      cases y with
      | pointer q => cases q <;> first | exact cl_observed | exact cl_stuck
      | _ => exact cl_stuck
  · rw [h] at hd; cases hd
    cases x <;> cases y <;> first | trivial | exact cl_stuck
  · rw [h] at hd; cases hd
    cases x <;> cases y <;> first | trivial | exact cl_stuck

theorem cl_eqGuard {op : BinOp} {t : TypeId} {x y : Operand} {a b : Value} (h : (op = .eql ∨ op = .neq) → Plain P t) : Cl S P (eqGuard op t x y a b) (fun _ => True) := by
  unfold eqGuard
  by_cases ho : op = .eql ∨ op = .neq
  · have ht := h ho
    have hg : Cl S P (Op.eqGuardIn Op.maxDepth t a b) (fun r => r = false) := by
      show Cl S P (Op.eqGuardIn (9999 + 1) t a b) _
      unfold Op.eqGuardIn
      refine (cl_underlying t).bind fun d hd => ?_
      rcases ht with ⟨k, h⟩ | h | h <;> (rw [h] at hd; cases hd; exact cl_pure rfl)
    have hgt : P.eqGuardType P.depth t = false := by
      have : P.depth = (2 * (P.types.size + Made.depth) + 1) + 1 := rfl
      rw [this, Program.eqGuardType]
      rcases ht with ⟨k, h⟩ | h | h <;> rw [h]
    rcases ho with rfl | rfl
    all_goals
      cases a with
      | nilIface =>
        cases b with
        | nilIface => exact cl_ite (fun h => nomatch h) fun _ => cl_ite (fun _ => trivial) fun _ => hg.bind fun r hr => by subst hr; trivial
        | _ => trivial
      | agg xs =>
        cases b with
        | agg ys =>
          refine cl_ite (fun h => nomatch h) fun _ => ?_
          refine cl_program (f := fun p => program >>= fun q => _) (cl_program (f := fun q => _) ?_)
          refine cl_ite (fun _ => trivial) fun hn => ?_
          rw [hgt] at hn
          exact absurd rfl hn
        | _ => trivial
      | _ => trivial
  · cases op <;> first | trivial | exact absurd (.inl rfl) ho | exact absurd (.inr rfl) ho
end

end Go.Proofs.Ytiodikflmijhkaa.Vow
/- The operations, given such values: third part, and the test by program. No program is named here. -/
set_option linter.unusedSectionVars false
set_option linter.unusedVariables false
namespace Go.Proofs.Ytiodikflmijhkaa.Vow
open Go Go.Conc

section
variable {S : Scope} {P : Program}

theorem cl_binOp {op : BinOp} {t : TypeId} {a b : Value} (ho : (op = .eql ∨ op = .neq) → Plain P t) (ha : Ok S a) (hb : Ok S b) : Cl S P (binOp op t a b) (Ok S) := by
  unfold binOp
  split
  all_goals first
    | exact cl_shift
    | exact cl_stringOp
    | exact cl_observed
    | exact cl_stuck
    | exact cl_movedNumber ha
    | exact cl_movedNumber hb
    | exact (cl_behind (ok_pointer.1 ha)).bind fun x hx => (cl_behind (ok_pointer.1 hb)).bind fun y hy => cl_addrSub hx hy
    | exact (cl_behind (ok_pointer.1 ha)).bind fun x hx => (cl_behind (ok_pointer.1 hb)).bind fun y hy => cl_addrCmp hx hy
    | exact (cl_behind (ok_pointer.1 ha)).bind fun x hx => cl_addrMod hx
    | exact (cl_behind (ok_pointer.1 hb)).bind fun x hx => cl_addrMod hx
    | (cases ha; done)
    | exact (cl_equal (ho (.inl rfl)) ha hb).bind fun r _ => cl_pure (.bool _)
    | exact (cl_equal (ho (.inr rfl)) ha hb).bind fun r _ => cl_pure (.bool _)
    | (refine cl_ite (fun _ => cl_stuck) fun _ => ?_; split <;> first | exact cl_intArith | exact cl_intDiv | exact cl_intBits | exact cl_intCmp)
    | exact (cl_underlying t).bind fun d _ => by split <;> first | exact cl_movedPointer ha | exact cl_movedNumber ha
theorem cl_unary {op : UnOp} {a : Value} (ha : Ok S a) : Cl S P (Op.unary op a) (Ok S) := by
  unfold Op.unary
  split <;> first | exact cl_intArith | exact cl_intBits | exact cl_pure (.bool _) | exact cl_observed | exact cl_stuck | (cases ha; done)

theorem cl_intToInt {k : IntKind} {n : Int} : Cl S P (Conv.intToInt k n) (Ok S) := cl_pure (.int _ _)
theorem cl_convert {s d : TypeId} {x : Value} (hs : ∃ k, P.underlying s = some (.int k)) (hd : ∃ k, P.underlying d = some (.int k)) (hx : Ok S x) : Cl S P (convert s d x) (Ok S) := by
  obtain ⟨k, hs⟩ := hs
  obtain ⟨k', hd⟩ := hd
  unfold convert
  refine (cl_underlying s).bind fun a ha => (cl_underlying d).bind fun b hb => ?_
  rw [hs] at ha; rw [hd] at hb
  cases ha; cases hb
  cases x with
  | int k n => exact cl_intToInt
  | pointer p => cases p <;> first | exact cl_observed | exact cl_noEntry
  | float k n => exact absurd hx (by intro h; cases h)
  | _ => exact cl_noEntry

theorem fill_ok {place : Nat → Option (Nat × Nat)} : ∀ (parts : List (Nat × Value)) (cells cs : Array Value), (∀ v ∈ cells, Ok S v) → (∀ p ∈ parts, Ok S p.2) → Instr.fill place cells parts = some cs → ∀ v ∈ cs, Ok S v
  | [], cells, cs, hc, _, h => by cases h; exact hc
  | (i, v) :: rest, cells, cs, hc, hp, h => by
    unfold Instr.fill at h
    split at h
    · cases h
    · split at h
      · cases h
      · refine fill_ok rest _ cs ?_ (fun p hp' => hp p (List.mem_cons_of_mem _ hp')) h
        have hv := ok_cells (hp (i, v) (List.mem_cons_self ..))
        rename_i off size _ _
        have key : ∀ (l : List (Value × Nat)) (cs : Array Value), (∀ x ∈ cs, Ok S x) → (∀ p ∈ l, Ok S p.1) → ∀ x ∈ l.foldl (fun cs (x : Value × Nat) => cs.setIfInBounds (off + x.2) x.1) cs, Ok S x := by
          intro l
          induction l with
          | nil => exact fun cs h _ => h
          | cons p l ih => exact fun cs h hl => ih _ (TmpsOk.set h (hl p (List.mem_cons_self ..)) _) fun q hq => hl q (List.mem_cons_of_mem _ hq)
        have h2 : ∀ p ∈ v.cells.zipIdx.toList, Ok S p.1 := fun p hp => by
          have h3 : p ∈ v.cells.zipIdx := Array.mem_toList_iff.1 hp
          obtain ⟨_, _, h4⟩ := Array.mem_zipIdx h3
          rw [h4]
          exact hv _ (Array.getElem_mem _)
        rw [← Array.foldl_toList]
        exact key _ cells hc h2

theorem mapM_any {α β : Type} (f : α → Sem β) (hf : ∀ a, Cl S P (f a) (fun _ => True)) (xs : Array α) : Cl S P (xs.mapM f) (fun _ => True) := by
  rw [Array.mapM_eq_foldlM, ← Array.foldlM_toList]
  have key : ∀ (l : List α) (bs : Array β), Cl S P (l.foldlM (fun bs a => bs.push <$> f a) bs) (fun _ => True) := by
    intro l
    induction l with
    | nil => exact fun bs => trivial
    | cons x l ih =>
      intro bs
      rw [List.foldlM_cons, map_eq_pure_bind]
      exact Cl.bind ((hf x).bind (Ψ := fun _ => True) fun b _ => trivial) fun bs' _ => ih bs'
  exact key _ _

theorem cl_build {t : TypeId} {parts : Array (Nat × Value)} (hz : ZeroOk S P t) (hp : ∀ p ∈ parts, Ok S p.2) : Cl S P (Instr.build t parts) (Ok S) := by
  unfold Instr.build
  refine (cl_zero hz).bind fun z hz => (cl_underlying t).bind fun d _ => ?_
  have hp' : ∀ p ∈ parts.toList, Ok S p.2 := fun p h => hp p (Array.mem_toList_iff.1 h)
  split
  · refine (mapM_any (fun f : Field => do pure (f.offset, ← sizeOf f.type)) (fun f => (cl_sizeOf f.type).bind fun _ _ => trivial) _).bind fun pl _ => ?_
    split
    · rename_i cs h; exact ok_agg.2 (fill_ok _ _ _ (ok_cells hz) hp' h)
    · exact cl_stuck
  · refine (cl_sizeOf _).bind fun n _ => ?_
    split
    · rename_i cs h; exact ok_agg.2 (fill_ok _ _ _ (ok_cells hz) hp' h)
    · exact cl_stuck
  · exact cl_stuck

theorem zeros_ok {z : Array Value} (hz : ∀ v ∈ z, Ok S v) (n : Nat) : ∀ v ∈ (Array.range n).map (z[· % z.size]!), Ok S v := by
  intro v hv
  obtain ⟨i, _, rfl⟩ := Array.mem_map.1 hv
  rw [getElem!_def]
  split
  · rename_i h; exact hz _ (Array.mem_of_getElem? h)
  · exact (.bool _ : Ok S (.bool _))

theorem cl_makeSlice {t : TypeId} {l c : Value} (hz : ∀ e, P.underlying t = some (.slice e) → ZeroOk S P e) : Cl S P (Instr.makeSlice t l c) (Ok S) := by
  unfold Instr.makeSlice
  refine (cl_underlying t).bind fun d hd => ?_
  split
  · rename_i e
    refine (cl_asInt l).bind fun n _ => (cl_asInt c).bind fun m _ => (cl_typeInfo e).bind fun i _ => ?_
    dsimp only
    have key : ∀ (z : Array Value), (∀ v ∈ z, Ok S v) → ∀ n a b, Cl S P (newRow e ((Array.range n).map (z[· % z.size]!)) >>= fun r => pure (.slice (some r) a b)) (Ok S) := fun z hz n a b =>
      (cl_newRow (zeros_ok hz n)).bind fun r hr => ok_slice.2 hr
    have rest : Cl S P (do
        askRoom ((IntKind.i64.wrap m).toNat * i.bytes)
        let n' := (IntKind.i64.wrap m).toNat * (← sizeOf e)
        let zero ← if n' = 0 then pure #[] else do pure (← zeroValue e).cells
        let a ← newRow e ((Array.range n').map (zero[· % zero.size]!))
        pure (.slice (some a) (IntKind.i64.wrap n).toNat (IntKind.i64.wrap m).toNat) : Sem Value) (Ok S) := by
      refine cl_seq cl_askRoom ((cl_sizeOf e).bind fun s _ => ?_)
      refine cl_ite (fun _ => key #[] (by simp) _ _ _) fun _ => ?_
      exact (cl_zero (hz e hd)).bind fun z hz => key _ (ok_cells hz) _ _ _
    refine cl_ite (fun _ => ?_) fun _ => rest
    refine cl_ite (fun _ => trivial) fun _ => ?_
    refine cl_ite (fun _ => trivial) fun _ => ?_
    exact fun n => trivial
  · exact cl_stuck
end

end Go.Proofs.Ytiodikflmijhkaa.Vow
/- The operations, given such values: fourth part, and the test by program. No program is named here. -/
set_option linter.unusedSectionVars false
set_option linter.unusedVariables false
namespace Go.Proofs.Ytiodikflmijhkaa.Vow
open Go Go.Conc

section
variable {S : Scope} {P : Program}

theorem cl_buildSlice {t : TypeId} {n : Nat} {parts : Array (Nat × Value)} (hz : ∀ e, P.underlying t = some (.slice e) → ZeroOk S P e) (hp : ∀ p ∈ parts, Ok S p.2) : Cl S P (Instr.buildSlice t n parts) (Ok S) := by
  unfold Instr.buildSlice
  refine (cl_underlying t).bind fun d hd => ?_
  have hp' : ∀ p ∈ parts.toList, Ok S p.2 := fun p h => hp p (Array.mem_toList_iff.1 h)
  split
  · rename_i e
    refine (cl_sizeOf e).bind fun size _ => ?_
    have fin : ∀ z : Array Value, (∀ v ∈ z, Ok S v) → Cl S P (match Instr.fill (fun i => some (i * size, size)) ((Array.range (n * size)).map (z[· % z.size]!)) parts.toList with
        | some cells => (do pure (.slice (some (← newRow e cells)) n n) : Sem Value) | _ => stuck "buildSlice: a part of the wrong size") (Ok S) := fun z hz => by
      split
      · rename_i cs h; exact (cl_newRow (fill_ok _ _ _ (zeros_ok hz _) hp' h)).bind fun r hr => ok_slice.2 hr
      · exact cl_stuck
    have key : Cl S P (do
        let zero ← if n * size = 0 then pure #[] else do pure (← zeroValue e).cells
        let some cells := Instr.fill (fun i => some (i * size, size)) ((Array.range (n * size)).map (zero[· % zero.size]!)) parts.toList
          | stuck "buildSlice: a part of the wrong size"
        pure (.slice (some (← newRow e cells)) n n) : Sem Value) (Ok S) := by
      refine cl_ite (fun _ => fin #[] (by simp)) fun _ => ?_
      exact (cl_zero (hz e hd)).bind fun z hz => fin _ (ok_cells hz)
    exact cl_ite (fun _ => cl_seq cl_limit key) fun _ => key
  · exact cl_stuck

theorem cl_sliceBound {x : Value} {y : Nat} {c : BoundsCode} : Cl S P (Instr.sliceBound x y c) (fun _ => True) :=
  (cl_asIntOf x).bind fun p _ => cl_ite (fun _ => trivial) fun _ => cl_bounds
theorem cl_sliceBounds {b : Bool} {l c : Nat} {lo hi mx : Option Value} : Cl S P (Instr.sliceBounds b l c lo hi mx) (fun _ => True) := by
  unfold Instr.sliceBounds
  have h3 : ∀ (m h : Nat), Cl S P (do
      let l ← match lo with | some v => Instr.sliceBound v h (if mx.isSome then .slice3C else .sliceB) | none => pure 0
      pure (l, h, m) : Sem (Nat × Nat × Nat)) (fun _ => True) := fun m h => by
    cases lo with
    | none => exact trivial
    | some v => exact cl_sliceBound.bind fun _ _ => trivial
  have h2 : ∀ m : Nat, Cl S P (do
      let h ← match hi, mx with
        | some v, some _ => Instr.sliceBound v m .slice3B
        | some v, none => Instr.sliceBound v m (if b then .sliceAcap else .sliceAlen)
        | none, none => pure l
        | none, some _ => stuck "Slice: max without high"
      let l ← match lo with | some v => Instr.sliceBound v h (if mx.isSome then .slice3C else .sliceB) | none => pure 0
      pure (l, h, m) : Sem (Nat × Nat × Nat)) (fun _ => True) := fun m => by
    cases hi with
    | none => cases mx with
      | none => exact h3 m l
      | some x => exact cl_stuck
    | some v => cases mx with
      | none => exact cl_sliceBound.bind fun h _ => h3 m h
      | some x => exact cl_sliceBound.bind fun h _ => h3 m h
  cases mx with
  | none => exact h2 c
  | some x => exact cl_sliceBound.bind fun m _ => h2 m

theorem ok_addS {a : Addr} {l c m : Nat} {q : Prop} [Decidable q] (h : ¬ S.D a.block) : Ok S (.slice (some (if q then a else a.add m)) l c) := ok_slice.2 (by split <;> first | exact h | (rw [add_block]; exact h))
theorem cl_slice {t : TypeId} {x : Value} {lo hi mx : Option Value} (hx : Ok S x) : Cl S P (Instr.slice t x lo hi mx) (Ok S) := by
  unfold Instr.slice
  refine (cl_underlying t).bind fun d _ => ?_
  split
  · rename_i str _
    have key : Cl S P (do
        let (l, h, _) ← Instr.sliceBounds false str.size str.size lo hi none
        pure (.string (str.extract l h)) : Sem Value) (Ok S) := cl_sliceBounds.bind fun _ _ => cl_pure (.string _)
    exact cl_ite (fun _ => cl_seq cl_stuck key) fun _ => key
  · rename_i e a l c _
    refine cl_sliceBounds.bind fun r _ => (cl_sizeOf e).bind fun n _ => ?_
    cases a with
    | none =>
      refine cl_pure ?_
      split <;> exact ok_nilslice
    | some a =>
      refine cl_pure ?_
      split
      · exact ok_slice.2 (ok_slice.1 hx)
      · exact ok_slice.2 (by rw [add_block]; exact ok_slice.1 hx)
  · rename_i arr _
    refine (cl_asAddr hx).bind fun a ha => (cl_underlying arr).bind fun d _ => ?_
    split
    · exact cl_sliceBounds.bind fun r _ => (cl_sizeOf _).bind fun n _ => cl_pure (ok_addS ha)
    · exact cl_stuck
  · exact cl_stuck
theorem cl_sliceAt {t : TypeId} {x : Value} {lo hi mx : Option Value} (hx : Ok S x) : Cl S P (Instr.sliceAt t x lo hi mx) (Ok S) := by
  unfold Instr.sliceAt
  refine (cl_underlying t).bind fun d _ => ?_
  split
  · exact (cl_sureAddr hx).bind fun a ha => cl_sliceBounds.bind fun r _ => (cl_sizeOf _).bind fun n _ => cl_pure (ok_addS ha)
  · exact cl_slice hx

theorem cl_indexAt {t : TypeId} {x i : Value} (hx : Ok S x) : Cl S P (Instr.indexAt t x i) (Ok S) := by
  unfold Instr.indexAt
  refine (cl_asIntOf i).bind fun p _ => (cl_underlying t).bind fun d _ => ?_
  have fin : ∀ (base : Option Addr) (len : Nat) (elem : TypeId), (∀ a, base = some a → ¬ S.D a.block) → Cl S P (do
      let tiny := len ≤ 1 && (match ← underlying t with | .array .. => true | _ => false)
      match base with
      | some a =>
        if 0 ≤ p.2 ∧ p.2 < len then pure (.pointer (some (a.add (p.2.toNat * (← sizeOf elem)))))
        else if tiny then unsupported (.noEntry "op/indexAddr.an index out of range at an array of length 0 or 1 (ledger 616)")
        else boundsPanic p.1 p.2 len .index
      | none => boundsPanic p.1 p.2 0 .index : Sem Value) (Ok S) := fun base len elem hb => by
    refine (cl_underlying t).bind fun d _ => ?_
    cases base with
    | none => exact cl_bounds
    | some a =>
      refine cl_ite (fun _ => (cl_sizeOf elem).bind fun n _ => cl_pure (ok_pointer.2 (by rw [add_block]; exact hb a rfl))) fun _ => ?_
      exact cl_ite (fun _ => cl_noEntry) fun _ => cl_bounds
  dsimp only
  split
  · exact (cl_sureAddr hx).bind fun a ha => fin (some a) _ _ fun _ e => by cases e; exact ha
  · rename_i elem base len c _
    exact fin base len elem fun a e => by subst e; exact ok_slice.1 hx
  · exact cl_stuck
theorem cl_index {t : TypeId} {x i : Value} (hx : Ok S x) : Cl S P (Instr.index t x i) (Ok S) := by
  unfold Instr.index
  refine (cl_asIntOf i).bind fun p _ => (cl_underlying t).bind fun d _ => ?_
  split
  · exact cl_ite (fun _ => (cl_sizeOf _).bind fun n _ => cl_part (ok_agg.1 hx)) fun _ => cl_bounds
  · split
    · exact cl_pure (.int _ _)
    · exact cl_bounds
  · exact cl_stuck
theorem cl_partAt {a : Addr} {c b : Nat} (h : ¬ S.D a.block) : Cl S P (partAt a c b) (fun x => ¬ S.D x.block) := by
  unfold partAt
  refine (cl_byteOf h).bind fun n _ => (cl_byteOf (a := { block := a.block, off := a.off + c }) h).bind fun m _ => cl_pure ?_
  split <;> exact h
theorem cl_fieldAt {t : TypeId} {x : Value} {f : Nat} (hx : Ok S x) : Cl S P (Instr.fieldAt t x f) (Ok S) := by
  unfold Instr.fieldAt
  refine (cl_underlying t).bind fun d _ => ?_
  split
  · split
    · rename_i fs _ fd _
      refine (cl_sureAddr hx).bind fun a ha => ?_
      have key : Cl S P (fieldPlace a fd) (fun x => ¬ S.D x.block) := by
        unfold fieldPlace
        exact (cl_sizeOf _).bind fun n _ => cl_ite (fun _ => cl_partAt ha) fun _ => cl_pure (by rw [add_block]; exact ha)
      exact key.bind fun b hb => ok_pointer.2 hb
    · exact cl_stuck
  · exact cl_stuck
theorem cl_field {t : TypeId} {x : Value} {f : Nat} (hx : Ok S x) : Cl S P (Instr.field t x f) (Ok S) := by
  unfold Instr.field
  refine (cl_underlying t).bind fun d _ => ?_
  split
  · split
    · exact (cl_asAgg hx).bind fun cs hcs => cl_part hcs
    · exact cl_stuck
  · exact cl_stuck
theorem cl_extract {x : Value} {i : Nat} (hx : Ok S x) : Cl S P (Instr.extract x i) (Ok S) := by
  unfold Instr.extract
  split
  · split
    · rename_i v h; exact cl_pure (ok_tuple.1 hx v (Array.mem_of_getElem? h))
    · exact cl_stuck
  · exact cl_stuck
theorem cl_len {ts : Array TypeId} {t : TypeId} {args : Array Value} (hx : ∀ v ∈ args, Ok S v) : Cl S P (Builtin.len_ ts t args) (Ok S) := by
  unfold Builtin.len_
  split
  · rename_i _ tt x h1
    have h2 : args[0]? = some x := (Prod.mk.inj h1).2
    have hok : Ok S x := hx x (Array.mem_of_getElem? h2)
    refine (cl_underlying tt).bind fun d _ => ?_
    split <;> first
      | exact cl_pure (.int _ _)
      | exact cl_stuck
      | (cases hok; done)
      | exact (cl_underlying _).bind fun d _ => by split <;> first | exact cl_pure (.int _ _) | exact cl_stuck
  · exact cl_stuck
theorem cl_lenOf (x : Value) : Cl S P (Builtin.lenOf x) (fun _ => True) := by cases x <;> trivial
theorem cl_firstCells {size n : Nat} {x : Value} (hx : Ok S x) : Cl S P (Builtin.firstCells size n x) (fun cs => ∀ v ∈ cs, Ok S v) := by
  cases x with
  | slice a l c =>
    cases a with
    | none => exact cl_pure (by simp)
    | some a => exact cl_loadCells (ok_slice.1 hx) _
  | string s =>
    refine cl_pure fun v hv => ?_
    obtain ⟨b, _, rfl⟩ := Array.mem_map.1 hv
    exact .int _ _
  | _ => exact cl_stuck
theorem cl_copy {ts : Array TypeId} {t : TypeId} {args : Array Value} (hx : ∀ v ∈ args, Ok S v) : Cl S P (Builtin.copy_ ts t args) (Ok S) := by
  unfold Builtin.copy_
  split
  · rename_i _ dt dst src h1
    have h2 : args[0]? = some dst := (Prod.mk.inj (Prod.mk.inj h1).2).1
    have h3 : args[1]? = some src := (Prod.mk.inj (Prod.mk.inj h1).2).2
    have hd : Ok S dst := hx dst (Array.mem_of_getElem? h2)
    have hs : Ok S src := hx src (Array.mem_of_getElem? h3)
    refine (cl_underlying dt).bind fun d _ => ?_
    split
    · split
      · rename_i base dl _
        refine (cl_lenOf src).bind fun n _ => (cl_sizeOf _).bind fun sz _ => (cl_firstCells hs).bind fun cs hcs => ?_
        dsimp only
        cases base with
        | none => exact cl_pure (.int _ _)
        | some a => exact cl_seq (cl_storeCells (ok_slice.1 hd) _ 0 fun v hv => hcs v (Array.mem_toList_iff.1 hv)) (cl_pure (.int _ _))
      · exact cl_stuck
    · exact cl_stuck
  · exact cl_stuck
end

end Go.Proofs.Ytiodikflmijhkaa.Vow
/- Code that holds such operations alone: a test by program. No program is named here. -/
set_option linter.unusedSectionVars false
set_option linter.unusedVariables false
namespace Go.Proofs.Ytiodikflmijhkaa.Vow
open Go Go.Conc

/-! ### the test -/
def flatB : Value → Bool
  | .bool _ | .int _ _ | .string _ | .pointer none | .slice none _ _ | .nilFunc | .nilIface => true
  | _ => false
def constB : Value → Bool
  | .agg cs | .tuple cs => cs.all flatB
  | v => flatB v
def opdB (gB : Nat → Bool) (fB : FuncId → Bool) : Operand → Bool
  | .tmp _ => true
  | .const v => constB v
  | .global g => gB g
  | .func f => fB f
def plainB (P : Program) (t : TypeId) : Bool := match P.underlying t with
  | some (.int _) | some .bool | some .string => true
  | _ => false
def intB (P : Program) (t : TypeId) : Bool := match P.underlying t with
  | some (.int _) => true
  | _ => false
def zeroB (P : Program) (t : TypeId) : Bool := match P.info? t with
  | some i => (match i.zero with | some v => constB v | none => true)
  | none => true
def elemB (P : Program) (t : TypeId) : Bool := match P.underlying t with
  | some (.slice e) => zeroB P e
  | _ => true
def callB (P : Program) (gB : Nat → Bool) (fB : FuncId → Bool) (c : Call) : Bool := c.args.all (opdB gB fB) && match c.callee with
  | .value f => opdB gB fB f
  | .builtin .len | .builtin .copy => true
  | _ => false
def opB (P : Program) (gB : Nat → Bool) (fB : FuncId → Bool) (o : Op) : Bool := match o with
  | .move x | .assign x | .box _ x | .load _ x | .nilCheck x | .unOp _ _ x | .fieldAddr _ x _ | .field _ x _ | .extract x _ => opdB gB fB x
  | .pick c a b => opdB gB fB c && opdB gB fB a && opdB gB fB b
  | .alloc t => zeroB P t
  | .build t ps => zeroB P t && ps.all fun p => opdB gB fB p.2
  | .buildSlice t _ ps => elemB P t && ps.all fun p => opdB gB fB p.2
  | .store _ a v | .indexAddr _ a v | .index _ a v => opdB gB fB a && opdB gB fB v
  | .binOp op t a b _ => opdB gB fB a && opdB gB fB b && (match op with | .eql | .neq => plainB P t | _ => true)
  | .convert s d x => intB P s && intB P d && opdB gB fB x
  | .makeSlice t a b => elemB P t && opdB gB fB a && opdB gB fB b
  | .slice _ x lo hi mx => opdB gB fB x && lo.all (opdB gB fB) && hi.all (opdB gB fB) && mx.all (opdB gB fB)
  | .call c => callB P gB fB c
  | _ => false
def codeB (P : Program) (gB : Nat → Bool) (fB : FuncId → Bool) : Code → Bool
  | .skip | .ret | .label _ | .exit _ | .refuse _ => true
  | .region _ ops _ => ops.all fun o => opB P gB fB o.op
  | .seq a b | .cond _ a b => codeB P gB fB a && codeB P gB fB b
  | .block _ b | .loop b => codeB P gB fB b
  | _ => false
def funcB (P : Program) (gB : Nat → Bool) (fB : FuncId → Bool) (f : FuncId) : Bool := match P.funcs[f]? with
  | some fn => fn.name != "runtime.NumGoroutine" && (match fn.body with | some c => codeB P gB fB c | none => false)
  | none => false

section
variable {S : Scope} {P : Program} {gB : Nat → Bool} {fB : FuncId → Bool}

theorem flat_ok {v : Value} (h : flatB v = true) : Ok S v := by
  cases v with
  | bool b => exact .bool _
  | int k n => exact .int _ _
  | string s => exact .string _
  | pointer a => cases a with
    | none => exact ok_nilptr
    | some a => cases h
  | slice a l c => cases a with
    | none => exact ok_nilslice
    | some a => cases h
  | nilFunc => exact .nilFunc
  | nilIface => exact .nilIface
  | _ => cases h
theorem const_ok {v : Value} (h : constB v = true) : Ok S v := by
  have key : ∀ cs : Array Value, cs.all flatB = true → ∀ x ∈ cs, Ok S x := fun cs h x hx => flat_ok (Array.all_eq_true_iff_forall_mem.1 h x hx)
  cases v with
  | agg cs => exact ok_agg.2 (key cs h)
  | tuple cs => exact ok_tuple.2 (key cs h)
  | _ => exact flat_ok h

structure Fits (S : Scope) (P : Program) (gB : Nat → Bool) (fB : FuncId → Bool) : Prop where
  glob : ∀ g, gB g = true → ¬ S.D g
  func : ∀ f, fB f = true → S.F f
  known : ∀ f, S.F f → funcB P gB fB f = true

theorem eval_ok (hF : Fits S P gB fB) {fr : Frame} (h : TmpsOk S fr.tmps) {x : Operand} (hx : opdB gB fB x = true) : Ok S (fr.eval x) := by
  cases x with
  | tmp t =>
    show Ok S (fr.tmps.getD t undef)
    rw [Array.getD_eq_getD_getElem?]
    cases ht : fr.tmps[t]? with
    | none => exact ok_undef
    | some v => exact h v (Array.mem_of_getElem? ht)
  | const v => exact const_ok hx
  | global g => exact ok_pointer.2 (hF.glob g hx)
  | func f => exact .func _ _ _ (hF.func f hx) (by simp) (by simp)

theorem plain_of {t : TypeId} (h : plainB P t = true) : Plain P t := by
  unfold plainB at h
  unfold Plain
  split at h
  · rename_i k e; exact .inl ⟨k, e⟩
  · rename_i e; exact .inr (.inl e)
  · rename_i e; exact .inr (.inr e)
  · cases h
theorem int_of {t : TypeId} (h : intB P t = true) : ∃ k, P.underlying t = some (.int k) := by
  unfold intB at h
  split at h
  · rename_i k e; exact ⟨k, e⟩
  · cases h
theorem zero_of {t : TypeId} (h : zeroB P t = true) : ZeroOk S P t := by
  intro i v hi hv
  unfold zeroB at h
  rw [hi] at h
  simp only [hv] at h
  exact const_ok h
theorem elem_of {t : TypeId} (h : elemB P t = true) : ∀ e, P.underlying t = some (.slice e) → ZeroOk S P e := by
  intro e he
  unfold elemB at h
  rw [he] at h
  exact zero_of h

theorem cl_v {s : Sem Value} (h : Cl S P s (Ok S)) : Cl S P (do pure (.value (← s)) : Sem Next) (NextOk S) := h.bind fun v hv => hv
theorem cl_u {s : Sem Unit} (h : Cl S P s fun _ => True) : Cl S P (do s; pure .skip : Sem Next) (NextOk S) := h.bind fun _ _ => trivial

theorem cl_callFunc (hF : Fits S P gB fB) {f : FuncId} {args : Array Value} (hf : S.F f) (ha : ∀ v ∈ args, Ok S v) : Cl S P (callFunc f args) (NextOk S) := by
  have hk := hF.known f hf
  unfold funcB at hk
  unfold callFunc
  refine cl_program ?_
  cases hfn : P.funcs[f]? with
  | none => rw [hfn] at hk; cases hk
  | some fn =>
    rw [hfn] at hk
    simp only [Bool.and_eq_true, bne_iff_ne, ne_eq] at hk
    cases hb : fn.body with
    | none => rw [hb] at hk; exact absurd hk.2 (by simp)
    | some c =>
      refine cl_ite (fun h => absurd (by simpa using h) hk.1) fun _ => ?_
      rw [hb]
      exact ⟨hf, ha⟩

theorem op_ok (hF : Fits S P gB fB) {o : Oper} (h : opB P gB fB o.op = true) : OpOk S P o := by
  intro fr ht
  obtain ⟨dst, op, ty, pos, after, guard⟩ := o
  have ev : ∀ {x}, opdB gB fB x = true → Ok S (fr.eval x) := fun hx => eval_ok hF ht hx
  simp only at h
  have evs : ∀ {xs : Array Operand}, xs.all (opdB gB fB) = true → ∀ v ∈ xs.map fr.eval, Ok S v := fun {xs} hxs v hv => by
    obtain ⟨x, hx, rfl⟩ := Array.mem_map.1 hv
    exact ev (Array.all_eq_true_iff_forall_mem.1 hxs x hx)
  have evp : ∀ {ps : Array (Nat × Operand)}, (ps.all fun p => opdB gB fB p.2) = true → ∀ p ∈ ps.map (fun x => (x.1, fr.eval x.2)), Ok S p.2 := fun {ps} hps p hp => by
    obtain ⟨x, hx, rfl⟩ := Array.mem_map.1 hp
    exact ev (Array.all_eq_true_iff_forall_mem.1 hps x hx)
  cases op with
  | move x => exact ev h
  | assign x => exact ev h
  | pick c a b =>
    simp only [opB, Bool.and_eq_true] at h
    refine (cl_asBool _).bind fun t _ => cl_pure ?_
    cases t
    · exact ev h.2
    · exact ev h.1.2
  | alloc t => exact cl_v ((cl_zero (zero_of h)).bind fun z hz => (cl_newVar hz).bind fun a ha => ok_pointer.2 ha)
  | box t x => exact cl_v ((cl_newVar (ev h)).bind fun a ha => ok_pointer.2 ha)
  | build t ps =>
    simp only [opB, Bool.and_eq_true] at h
    exact cl_v (cl_build (zero_of h.1) (evp h.2))
  | buildSlice t n ps =>
    simp only [opB, Bool.and_eq_true] at h
    exact cl_v (cl_buildSlice (elem_of h.1) (evp h.2))
  | load t a => exact cl_v ((cl_sureAddr (ev h)).bind fun x hx => cl_loadVar hx)
  | store t a v =>
    simp only [opB, Bool.and_eq_true] at h
    exact cl_u ((cl_sureAddr (ev h.1)).bind fun x hx => cl_storeVar hx (ev h.2))
  | nilCheck x =>
    have hx := ev h
    unfold execOp
    dsimp only
    revert hx
    generalize fr.eval x = v
    intro hx
    cases v with
    | pointer a => cases a with
      | none => exact cl_nilDeref
      | some a => exact hx
    | func fn a b =>
      cases fn with
      | method name => cases hx with | func _ _ _ hf _ _ => exact hf.elim
      | _ => exact hx
    | nilFunc => exact cl_nilDeref
    | nilIface => exact cl_nilDeref
    | _ => exact hx
  | binOp op t a b t' =>
    simp only [opB, Bool.and_eq_true] at h
    have hp : (op = .eql ∨ op = .neq) → Plain P t := fun e => by rcases e with rfl | rfl <;> exact plain_of h.2
    exact cl_v (cl_seq (cl_eqGuard hp) (cl_binOp hp (ev h.1.1) (ev h.1.2)))
  | unOp op t x => exact cl_v (cl_unary (ev h))
  | convert s d x =>
    simp only [opB, Bool.and_eq_true] at h
    exact cl_v (cl_convert (int_of h.1.1) (int_of h.1.2) (ev h.2))
  | makeSlice t a b =>
    simp only [opB, Bool.and_eq_true] at h
    exact cl_v (cl_makeSlice (elem_of h.1.1))
  | slice t x lo hi mx =>
    simp only [opB, Bool.and_eq_true] at h
    exact cl_v (cl_sliceAt (ev h.1.1.1))
  | fieldAddr t x f => exact cl_v (cl_fieldAt (ev h))
  | field t x f => exact cl_v (cl_field (ev h))
  | indexAddr t a b =>
    simp only [opB, Bool.and_eq_true] at h
    exact cl_v (cl_indexAt (ev h.1))
  | index t a b =>
    simp only [opB, Bool.and_eq_true] at h
    exact cl_v (cl_index (ev h.1))
  | extract x i => exact cl_v (cl_extract (ev h))
  | call c =>
    obtain ⟨callee, args, argTypes⟩ := c
    simp only [opB, callB, Bool.and_eq_true] at h
    have ha := evs h.1
    cases callee with
    | value f =>
      have hf := ev h.2
      show Cl S P (Deferred.ofValue (fr.eval f) (args.map fr.eval) >>= fun d => invoke d.target d.args) _
      revert hf
      generalize fr.eval f = v
      intro hf
      cases v with
      | nilFunc => exact cl_nilDeref
      | func fn first captured =>
        cases hf with
        | func _ _ _ hfn h1 h2 =>
          cases fn with
          | func f =>
            refine cl_callFunc hF hfn fun v hv => ?_
            rcases Array.mem_append.1 hv with hv | hv
            · rcases Array.mem_append.1 hv with hv | hv
              · exact h1 v hv
              · exact ha v hv
            · exact h2 v hv
          | _ => exact hfn.elim
      | _ => exact cl_stuck
    | builtin b =>
      cases b with
      | len => exact cl_v (cl_len ha)
      | copy => exact cl_v (cl_copy ha)
      | _ => exact absurd h.2 (by simp)
    | invoke r m => exact absurd h.2 (by simp)
  | _ => cases h

theorem code_ok (hF : Fits S P gB fB) : ∀ {c : Code}, codeB P gB fB c = true → CodeOk S P c
  | .skip, _ | .ret, _ | .label _, _ | .exit _, _ | .refuse _, _ => trivial
  | .region _ ops _, h => fun o ho => op_ok hF (Array.all_eq_true_iff_forall_mem.1 h o ho)
  | .seq a b, h => by
    simp only [codeB, Bool.and_eq_true] at h
    exact ⟨code_ok hF h.1, code_ok hF h.2⟩
  | .cond _ a b, h => by
    simp only [codeB, Bool.and_eq_true] at h
    exact ⟨code_ok hF h.1, code_ok hF h.2⟩
  | .block _ b, h => code_ok (c := b) hF h
  | .loop b, h => code_ok (c := b) hF h
  | .rangeFunc .., h => by cases h
  | .scope _, h => by cases h
  | .goto _, h => by cases h

theorem cl_results {fn : Func} {tmps : Array Value} (h : TmpsOk S tmps) : Cl S P (results fn tmps) (Ok S) := by
  unfold results
  have get : ∀ t : Tmp, Ok S (tmps.getD t undef) := fun t => by
    rw [Array.getD_eq_getD_getElem?]
    cases ht : tmps[t]? with
    | none => exact ok_undef
    | some v => exact h v (Array.mem_of_getElem? ht)
  have one : ∀ r : ResultVar, Cl S P (match r with | .tmp t => pure (tmps.getD t undef) | .cell a t => do loadVar t (← asAddr (tmps.getD a undef)) : Sem Value) (Ok S) := fun r => by
    cases r with
    | tmp t => exact get t
    | cell a t => exact (cl_asAddr (get a)).bind fun x hx => cl_loadVar hx
  rw [Array.mapM_eq_foldlM, ← Array.foldlM_toList]
  have key : ∀ (l : List ResultVar) (bs : Array Value), (∀ v ∈ bs, Ok S v) → Cl S P (l.foldlM (fun bs a => bs.push <$> (match a with | .tmp t => pure (tmps.getD t undef) | .cell a t => do loadVar t (← asAddr (tmps.getD a undef)) : Sem Value)) bs) (fun vs => ∀ v ∈ vs, Ok S v) := by
    intro l
    induction l with
    | nil => exact fun bs hb => hb
    | cons x l ih =>
      intro bs hb
      rw [List.foldlM_cons, map_eq_pure_bind]
      refine Cl.bind ((one x).bind (Ψ := fun bs : Array Value => ∀ v ∈ bs, Ok S v) fun b hb' => ?_) fun bs' hbs => ih bs' hbs
      intro v hv
      rcases Array.mem_push.1 hv with h1 | rfl
      · exact hb v h1
      · exact hb'
  refine (key _ #[] (by simp)).bind fun vs hvs => cl_pure ?_
  split
  · exact hvs _ (Array.getElem_mem _)
  · exact ok_tuple.2 hvs

theorem scope_ok (hF : Fits S P gB fB) : ScopeOk S P := by
  refine ⟨fun f hf => ?_, fun f fn hf _ tmps ht => cl_results ht⟩
  have hk := hF.known f hf
  unfold funcB at hk
  cases hfn : P.funcs[f]? with
  | none => rw [hfn] at hk; cases hk
  | some fn =>
    rw [hfn] at hk
    simp only [Bool.and_eq_true, bne_iff_ne, ne_eq] at hk
    cases hb : fn.body with
    | none => rw [hb] at hk; exact absurd hk.2 (by simp)
    | some c => rw [hb] at hk; exact ⟨fn, c, rfl, hb, code_ok hF hk.2⟩
end

end Go.Proofs.Ytiodikflmijhkaa.Vow
/- The tree in the farm: the starter, alone but for such as leave, goes where it goes when alone. No program is named here. -/
set_option linter.unusedSectionVars false
set_option linter.unusedVariables false
namespace Go.Proofs.Ytiodikflmijhkaa.Farm
open Go Go.Conc Go.ConcN
open Go.ConcR (KK wgBlock WgAt stA smA rd wr mk Payload Aside2 DC0 Bk g_of_ofEvents)
open Vow
variable [Payload]

section
variable {P : Program} {ty : TypeId} {κ j : Nat} {gs : Array Goroutine} {w w' : World} {sl : Option (Nat × Nat)} {t : Trace} {D : Nat → KD} {So : Nat → Nat → Prop} {qo : Nat → Nat} {st : MSt} {S : Scope} {Q : Frame → World → Prop}

theorem evM_of_evV (hmay : ∀ b, ¬ S.D b → st.may b ∧ ¬ st.grp b) {B : Nat} {e : Event} (h : EvV S B e) : EvM st B e := by
  obtain ⟨loc, wr, sy⟩ := e
  rcases h with ⟨a, h1, h2, h3⟩ | ⟨r, h1, h2, h3, h4⟩ | h1
  · simp only at h1
    subst h1
    refine ⟨fun x hx => ?_, by simp, by simp, by simp, h3⟩
    simp only [MemAct.ofEvent, MemAct.touch?, Option.some.injEq] at hx
    subst hx
    exact .inr ⟨(hmay _ h2).2, fun _ => .inl ⟨a, rfl, (hmay _ h2).1⟩⟩
  · simp only at h1 h4
    subst h1 h4
    have : MemAct.ofEvent ⟨.obj r, wr, false⟩ = .access ⟨.obj r, wr, false⟩ := by cases wr <;> rfl
    refine ⟨fun x hx => ?_, by simp, by simp, by simp, by rw [this]; exact h3⟩
    simp only [this, MemAct.touch?, Option.some.injEq] at hx
    subst hx
    exact .inr ⟨(hmay _ h2).2, fun _ => .inr ⟨r, rfl, (hmay _ h2).1⟩⟩
  · simp only at h1
    subst h1
    exact ⟨fun x hx => by simp [MemAct.ofEvent, MemAct.touch?] at hx, by simp, by simp, by simp, trivial⟩

theorem crowd_awake {g : Goroutine} (h0 : gs[0]? = some g) (hrun : g.status = .running) (htag : st.tag = .law) (hc : Com P ty κ j gs w t D So qo st) : ∀ x ∈ gs, awake x := by
  intro x hx
  obtain ⟨i, hi⟩ := Array.mem_iff_getElem?.1 hx
  apply awake_of
  rcases Nat.eq_zero_or_pos i with rfl | hp
  · rw [h0] at hi; cases hi; exact .inl hrun
  · have hlt := (Array.getElem?_eq_some_iff.1 hi).1
    have hj := hc.lawj htag
    rw [hc.size] at hlt
    obtain ⟨y, hy, hqq⟩ := hc.old i hp (by omega)
    rw [hi] at hy; cases hy
    exact hqq.status.elim .inl fun x => .inr (.inr x)

/-- One step of the starter's, leavers slipping ahead of it. -/
theorem done_step {Fin : Value → World → Prop} (htag : st.tag = .law) {g : Goroutine} (hrun : g.status = .running) {f : Nat → Goroutine} {v : Nat → World} {es : Nat → Array Event}
    (hgo : ∀ d, stepG P true g (w.at d) = .go (f d) (v d) (es d)) (hD : ∀ d, DM st (w.at d) (v d) (es d)) (hK : ∀ d, Done P ty Fin st (f d) (v d)) : Done P ty Fin st g w := by
  intro d gs sl κ j D So qo t h0 hc
  have key : ∀ n (gs : Array Goroutine) (d : Nat) (sl : Option (Nat × Nat)) (qo : Nat → Nat) (t : Trace), sumTo κ qo ≤ n → gs[0]? = some g → Com P ty κ j gs (w.at d) t D So qo st → Ends P Fin gs (w.at d) sl t := by
    intro n
    induction n with
    | zero => ?_
    | succ n ih => ?_
    all_goals
      intro gs d sl qo t hq h0 hc
      obtain ⟨i, x, d', sl', hi, hx, hstep⟩ := crowd_pick (P := P) (w := w.at d) (sl := sl) (crowd_awake h0 hrun htag hc) ⟨0, g, h0, hrun⟩
      have hc' := hc.at d'
      have hj := hc.lawj htag
      rcases Nat.eq_zero_or_pos i with rfl | hp
      · rw [h0] at hi; cases hi
        have hr := runT_crowd_go (P := P) (sl := sl') (w := w.at d') (i := 0) h0 (by simpa using hgo d')
        have hDd := hD d'
        have hc2 := hc'.main (st' := st) (w' := v d') (t' := t ++ MemOp.ofEvents 0 g.frame.fn g.frame.place (es d')) (gs' := (gs.map (Conc.woken P g (f d') (v d'))).setIfInBounds 0 (f d')) (by simp) (gs_main hc _ _ _) rfl rfl rfl rfl rfl Iff.rfl (fun _ => .inl) hDd.size (fun x hx _ hm _ => hDd.keep x hx hm)
          (fun hl => absurd htag hl) (fun x hx => by omega) (tf_main hc' hDd.size hDd.evs) (fun x h1 hx => Deaf_other t (g := x) (g' := 0) (by omega) _ g_of_ofEvents)
        exact ends_next (by rw [hstep]; exact hr) (hK d' (v d').drawn _ _ κ j D So qo _ (get_map_set_same _ _ _ (by rw [hc.size]; have := hc.k1; omega)) hc2)
      · have hlt := (Array.getElem?_eq_some_iff.1 hi).1
        rw [hc.size] at hlt
        obtain ⟨y, hy, hqq⟩ := hc'.old i hp (by omega)
        rw [hi] at hy; cases hy
        cases hqi : qo i with
        | zero => rw [hqi] at hqq; rw [hqq.1] at hx; cases hx
        | succ k =>
          rw [hqi] at hqq
          rcases hqq with ⟨hf, _⟩ | ⟨_, g', es', hm, hstp, hq'⟩
          · rw [hf] at hx; cases hx
          have hr := runT_crowd_go (P := P) (sl := sl') (w := w.at d') (i := i) hi (by rw [show (i == 0) = false by simp; omega]; exact hstp (w.at d'))
          have h8 : sumTo κ (upd qo i k) + qo i = sumTo κ qo + k := sumTo_upd qo k id (show i < κ by omega)
          have hslip := hc'.slip (k := k) (g' := g') hp (show i < κ by omega) hm hq' (gs' := (gs.map (Conc.woken P x g' (w.at d'))).setIfInBounds i g') (fn := x.frame.fn) (pos := x.frame.place) (by simp) (get_map_set_same _ _ _ (by rw [hc.size]; omega)) (fun z hz e => by
            rw [get_map_set _ _ _ _ (by omega)]
            cases hgz : gs[z]? with
            | none => rfl
            | some v =>
              have hltz := (Array.getElem?_eq_some_iff.1 hgz).1
              rw [hc.size] at hltz
              obtain ⟨u, hu, hqx⟩ := hc.old z hz (by omega)
              rw [hgz] at hu; cases hu
              simp [woken_quitsD hqx])
          have h00 : ((gs.map (Conc.woken P x g' (w.at d'))).setIfInBounds i g')[0]? = some g := by rw [get_map_set _ _ _ _ (by omega), h0]; simp [woken_run hrun]
          first
          | (exfalso; omega)
          | exact ends_next (by rw [hstep]; exact hr) (ih _ d' sl' (upd qo i k) _ (by omega) h00 hslip)
  exact key _ gs d sl qo t (Nat.le_refl _) h0 hc

/-- ████ WHERE THE TREE STOPS THE RUN ENDS WELL: THEN IT DOES FROM ITS ROOT. ████ -/
theorem done_of_tree {Fin : Value → World → Prop} (htag : st.tag = .law) (hmay : ∀ b, ¬ S.D b → st.may b ∧ ¬ st.grp b) {k : List Item} {cs : List Frame} {fr : Frame} {up : List Frame} (h : Tree S P Q fr up w)
    (hQ : ∀ fr w' T d, Q fr (tp w' T d) → HeapOk S w' → FrOk S P fr → w'.tape = w.tape → Done P ty Fin st (G (sx k fr) cs) w') : Done P ty Fin st (ext k cs fr up) w := by
  induction h with
  | stop fr w T d h1 h2 h3 => exact hQ fr w T d h1 h2 h3 rfl
  | step fr up w f u v es m h1 h2 h3 ih =>
    refine done_step (f := fun d => ext k cs (f d) (u d)) (v := v) (es := es) htag (ext_run _ _ _ _) (fun d => h1 d k cs) (fun d => ?_) fun d => ih d fun fr' w' T d' a1 a2 a3 a4 => hQ fr' w' T d' a1 a2 a3 (a4.trans (h2 d).kept.tape)
    have hk := (h2 d).kept
    exact ⟨hk.size, fun hl => absurd htag hl, fun b hb hm => hk.keep b (Classical.byContradiction fun hn => hm (hmay b hn).1), fun e he => evM_of_evV hmay ((h2 d).evs e he)⟩
end

end Go.Proofs.Ytiodikflmijhkaa.Farm