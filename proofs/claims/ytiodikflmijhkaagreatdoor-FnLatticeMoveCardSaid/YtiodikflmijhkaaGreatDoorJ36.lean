/- Joined texts: V6 V12 V3. -/
import Derived.Test.YtiodikflmijhkaaGreatDoorJ35
import Derived.Conc.LoneCalls
section
set_option linter.unusedSectionVars false
set_option linter.unusedVariables false
namespace Go.Proofs.YtiodikflmijhkaaGreatDoor.Vow
open Go Go.Conc

section
variable {S : Scope} {P : Program} {α β : Type} {Φ : α → Prop}

theorem cl_pure {a : α} (h : Φ a) : Cl S P (pure a) Φ := h
theorem cl_stuck {why : String} : Cl S P (stuck why : Sem α) Φ := trivial
theorem cl_noEntry {s : String} : Cl S P (unsupported (.noEntry s) : Sem α) Φ := fun _ e => by cases e
theorem cl_unsafe {s : String} : Cl S P (unsupported (.unsafePointer s) : Sem α) Φ := fun _ e => by cases e
theorem cl_observed : Cl S P (unsupported .addressObserved : Sem α) Φ := fun _ e => by cases e
theorem cl_limit {s : String} : Cl S P (unsupported (.resourceLimit s) : Sem α) Φ := fun _ e => by cases e
theorem cl_program {f : Program → Sem α} (h : Cl S P (f P) Φ) : Cl S P (program >>= f) Φ := h
theorem cl_choose {q : Question} {f : Nat → Sem α} (h : ∀ n, Cl S P (f n) Φ) : Cl S P (choose q >>= f) Φ := h
theorem cl_shape {r : Nat} {f : Option (TypeId × Nat) → Sem α} (h : ∀ s, Cl S P (f s) Φ) : Cl S P (shape r >>= f) Φ := h
theorem cl_frozen {a : Addr} {f : Bool → Sem α} (h : ∀ s, Cl S P (f s) Φ) : Cl S P (frozen a >>= f) Φ := h
theorem cl_getObj {r : Nat} {f : Obj → Sem α} (hr : ¬ S.D r) (h : ∀ o, OkObj S o → Cl S P (f o) Φ) : Cl S P (getObj r >>= f) Φ := ⟨hr, h⟩
theorem cl_load {a : Addr} {m : Mode} (h : ¬ S.D a.block) : Cl S P (load a m) (Ok S) := ⟨h, fun v hv => hv⟩
theorem cl_store {a : Addr} {v : Value} {m : Mode} (h : ¬ S.D a.block) (hv : Ok S v) : Cl S P (store a v m) (fun _ => True) := ⟨h, hv, trivial⟩
theorem cl_ite {c : Prop} [Decidable c] {s t : Sem α} (h1 : c → Cl S P s Φ) (h2 : ¬ c → Cl S P t Φ) : Cl S P (if c then s else t) Φ := by
  split
  · exact h1 ‹_›
  · exact h2 ‹_›
theorem cl_seq {s : Sem Unit} {f : Unit → Sem α} (h : Cl S P s fun _ => True) (hf : Cl S P (f ()) Φ) : Cl S P (s >>= f) Φ := h.bind fun _ _ => hf
theorem cl_askRoom {n : Nat} : Cl S P (askRoom n) (fun _ => True) := by
  unfold askRoom
  exact cl_ite (fun _ => ⟨rfl, trivial⟩) fun _ => trivial

theorem add_block (a : Addr) (n : Nat) : (a.add n).block = a.block := by unfold Addr.add; split <;> rfl

theorem cl_underlying (t : TypeId) : Cl S P (underlying t) (fun d => P.underlying t = some d) := by
  show Cl S P (match P.underlying t with | some d => pure d | none => stuck _) _
  split
  · rename_i h; exact h
  · exact cl_stuck
theorem cl_typeInfo (t : TypeId) : Cl S P (typeInfo t) (fun i => P.info? t = some i) := by
  show Cl S P (match P.info? t with | some i => pure i | none => stuck _) _
  split
  · rename_i h; exact h
  · exact cl_stuck
theorem cl_sizeOf (t : TypeId) : Cl S P (sizeOf t) (fun _ => True) := (cl_typeInfo t).bind fun _ _ => trivial
theorem cl_isAgg (t : TypeId) : Cl S P (isAgg t) (fun _ => True) := (cl_underlying t).bind fun d _ => by
  cases d <;> exact cl_pure trivial
/-- The zero value of the type holds no address. -/
def ZeroOk (S : Scope) (P : Program) (t : TypeId) : Prop := ∀ i v, P.info? t = some i → i.zero = some v → Ok S v
theorem cl_zero {t : TypeId} (h : ZeroOk S P t) : Cl S P (zeroValue t) (Ok S) := (cl_typeInfo t).bind fun i hi => by
  show Cl S P (match i.zero with | some v => pure v | none => unsupported _) _
  split
  · rename_i v hv; exact h i v hi hv
  · exact cl_limit

theorem cl_loadCellsFrom {a : Addr} (h : ¬ S.D a.block) : ∀ (n i : Nat) (acc : Array Value), (∀ v ∈ acc, Ok S v) → Cl S P (loadCellsFrom a i n acc) (fun cs => ∀ v ∈ cs, Ok S v)
  | 0, i, acc, ha => ha
  | n + 1, i, acc, ha => by
    refine (cl_load (by rw [add_block]; exact h)).bind fun v hv => cl_loadCellsFrom h n (i + 1) _ fun x hx => ?_
    rcases Array.mem_push.1 hx with h1 | rfl
    · exact ha x h1
    · exact hv
theorem cl_loadCells {a : Addr} (h : ¬ S.D a.block) (n : Nat) : Cl S P (loadCells a n) (fun cs => ∀ v ∈ cs, Ok S v) := cl_loadCellsFrom h n 0 #[] (by simp)
theorem cl_storeCells {a : Addr} (h : ¬ S.D a.block) : ∀ (vs : List Value) (i : Nat), (∀ v ∈ vs, Ok S v) → Cl S P (storeCells a vs i) (fun _ => True)
  | [], _, _ => trivial
  | v :: r, i, hv => (cl_store (by rw [add_block]; exact h) (hv v (by simp))).bind fun _ _ => cl_storeCells h r (i + 1) fun x hx => hv x (by simp [hx])
theorem cl_loadVar {t : TypeId} {a : Addr} (h : ¬ S.D a.block) : Cl S P (loadVar t a) (Ok S) := (cl_isAgg t).bind fun b _ => by
  refine cl_ite (fun _ => ?_) fun _ => cl_load h
  exact (cl_sizeOf t).bind fun n _ => (cl_loadCells h n).bind fun cs hcs => ok_agg.2 hcs
theorem cl_storeVar {t : TypeId} {a : Addr} (h : ¬ S.D a.block) {v : Value} (hv : Ok S v) : Cl S P (storeVar t a v) (fun _ => True) := (cl_sizeOf t).bind fun n _ => by
  have key : Cl S P (storeCells a v.cells.toList) (fun _ => True) := cl_storeCells h _ 0 fun x hx => ok_cells hv x (Array.mem_toList_iff.1 hx)
  exact cl_ite (fun _ => cl_seq cl_stuck key) fun _ => key
theorem cl_newRow {t : TypeId} {cs : Array Value} (h : ∀ v ∈ cs, Ok S v) : Cl S P (newRow t cs) (fun a => ¬ S.D a.block) := ⟨h, fun r hr => hr⟩
theorem cl_newVar {t : TypeId} {v : Value} (h : Ok S v) : Cl S P (newVar t v) (fun a => ¬ S.D a.block) := cl_newRow (ok_cells h)
theorem mem_extract {cs : Array Value} {a b : Nat} {v : Value} (h : v ∈ cs.extract a b) : v ∈ cs := by
  obtain ⟨i, hi, rfl⟩ := Array.mem_iff_getElem.1 h
  rw [Array.getElem_extract]
  exact Array.getElem_mem _
theorem cl_part {t : TypeId} {cs : Array Value} {off : Nat} (h : ∀ v ∈ cs, Ok S v) : Cl S P (part t cs off) (Ok S) := (cl_isAgg t).bind fun b _ => by
  refine cl_ite (fun _ => ?_) fun _ => ?_
  · exact (cl_sizeOf t).bind fun n _ => ok_agg.2 fun v hv => h v (mem_extract hv)
  · split
    · rename_i v hv; exact h v (Array.mem_of_getElem? hv)
    · exact cl_stuck

theorem cl_error {s : String} : Cl S P (runtimePanic (.error s) : Sem α) Φ := trivial
theorem cl_nilDeref : Cl S P (runtimePanic .nilDeref : Sem α) Φ := trivial
theorem cl_bounds {k : IntKind} {x y : Int} {c : BoundsCode} : Cl S P (boundsPanic k x y c : Sem α) Φ := by
  unfold boundsPanic
  refine cl_ite (fun _ => ?_) fun _ => ?_
  · exact fun n => trivial
  · exact trivial
theorem cl_asIntOf (v : Value) : Cl S P (asIntOf v) (fun _ => True) := by
  cases v with
  | int k n => exact cl_pure trivial
  | pointer a => cases a <;> first | exact cl_stuck | exact cl_observed
  | _ => exact cl_stuck
theorem cl_asInt (v : Value) : Cl S P (asInt v) (fun _ => True) := (cl_asIntOf v).bind fun _ _ => trivial
theorem cl_asBool (v : Value) : Cl S P (asBool v) (fun _ => True) := by cases v <;> trivial
theorem cl_asAgg {v : Value} (h : Ok S v) : Cl S P (asAgg v) (fun cs => ∀ x ∈ cs, Ok S x) := by
  cases v with
  | agg cs => exact ok_agg.1 h
  | _ => exact cl_stuck
theorem cl_asAddr {v : Value} (h : Ok S v) : Cl S P (asAddr v) (fun a => ¬ S.D a.block) := by
  cases v with
  | pointer a =>
    cases a with
    | none => exact cl_nilDeref
    | some a => exact ok_pointer.1 h
  | _ => exact cl_stuck
theorem cl_sureAddr {v : Value} (h : Ok S v) : Cl S P (Instr.sureAddr v) (fun a => ¬ S.D a.block) := by
  cases v with
  | pointer a =>
    cases a with
    | none => exact cl_stuck
    | some a => exact ok_pointer.1 h
  | _ => exact cl_stuck

theorem cl_viewAt {r : Nat} (h : ¬ S.D r) : Cl S P (viewAt r) (fun x => x = none) := by
  unfold viewAt
  refine cl_shape fun s => cl_ite (fun _ => rfl) fun _ => cl_getObj h fun o ho => ?_
  cases o <;> first | exact cl_pure rfl | exact ho.elim
theorem cl_numberAt {r : Nat} (h : ¬ S.D r) : Cl S P (numberAt r) (fun x => ∀ a b, x = some (a, b) → ¬ S.D a.block) := by
  unfold numberAt
  refine cl_shape fun s => cl_ite (fun _ => cl_pure fun _ _ e => by cases e) fun _ => cl_getObj h fun o ho => ?_
  cases o with
  | number a lost =>
    refine cl_pure fun x y e => ?_
    simp only [Option.some.injEq, Prod.mk.injEq] at e
    obtain ⟨rfl, rfl⟩ := e
    exact ho
  | cells c t f => exact cl_pure fun x y e => nomatch e
  | loop l => exact cl_pure fun x y e => nomatch e
  | deferred l => exact cl_pure fun x y e => nomatch e
  | _ => exact ho.elim
theorem cl_behind {a : Addr} (h : ¬ S.D a.block) : Cl S P (behindNumber a) (fun x => ¬ S.D x.1.block) := (cl_numberAt h).bind fun x hx => by
  cases x with
  | none => exact h
  | some x => exact hx x.1 x.2 rfl
theorem cl_noView {a : Addr} (h : ¬ S.D a.block) : Cl S P (noView a) (fun _ => True) := (cl_viewAt h).bind fun x hx => by
  subst hx
  exact trivial
theorem cl_byteOf {a : Addr} (h : ¬ S.D a.block) : Cl S P (byteOf a) (fun _ => True) := by
  unfold byteOf
  split
  · exact trivial
  · refine cl_program (cl_seq (cl_noView h) (cl_shape fun s => ?_))
    split
    · refine cl_ite (fun _ => trivial) fun _ => ?_
      split
      · exact trivial
      · exact cl_stuck
    · exact cl_stuck
end

end Go.Proofs.YtiodikflmijhkaaGreatDoor.Vow
end

section
set_option linter.unusedSectionVars false
set_option linter.unusedVariables false
set_option linter.unusedSimpArgs false
namespace Go.Proofs.YtiodikflmijhkaaGreatDoor.Vow
open Go Go.Conc

section
variable {S : Scope} {P : Program}
theorem cl_setObj {r : Nat} {o : Obj} (hr : ¬ S.D r) (ho : OkObj S o) : Cl S P (setObj r o) (fun _ => True) := ⟨hr, ho, trivial⟩
theorem cl_getLoop {l : Nat} (h : ¬ S.D l) : Cl S P (Instr.getLoop l) (fun r => OkObj S (.loop r)) := by
  unfold Instr.getLoop
  refine cl_getObj h fun o ho => ?_
  cases o <;> first | exact cl_stuck | exact ho
theorem cl_enterLoop {fn : FuncId} {tmps : Array Value} {params : Array Tmp} {assign body : Code} {around : Option Nat} (hf : S.F fn) (ht : ∀ v ∈ tmps, Ok S v) (ha : S.C assign) (hb : S.C body) (hr : ∀ l, around = some l → ¬ S.D l) :
    Cl S P (Instr.enterLoop fn tmps params assign body around) (fun r => ¬ S.D r.1 ∧ ∀ d ∈ r.2, MarkOk S d) := by
  unfold Instr.enterLoop
  cases around with
  | none => exact ⟨fun l e => by cases e; rfl, fun r hr => ⟨⟨hf, ht, ha, hb, (fun c e => by cases e), hr⟩, fun l hl => ⟨hl, fun d hd => by
      simp only [List.mem_singleton] at hd
      exact ⟨r, hd, hr⟩⟩⟩⟩
  | some l => exact (cl_getLoop (hr l rfl)).bind fun r h => ⟨⟨hf, ht, ha, hb, (fun c e => by cases e), h.2.2.2.2.2⟩, fun l hl => ⟨hl, fun d hd => by simp at hd⟩⟩
theorem fold_ok {l : List (Tmp × Value)} : ∀ {tmps : Array Value}, (∀ v ∈ tmps, Ok S v) → (∀ p ∈ l, Ok S p.2) → ∀ v ∈ l.foldl (fun (tmps : Array Value) (p : Tmp × Value) => tmps.setIfInBounds p.1 p.2) tmps, Ok S v := by
  induction l with
  | nil => exact fun h _ => h
  | cons p l ih => exact fun h hl => ih (TmpsOk.set h (hl p (List.mem_cons_self ..)) p.1) fun q hq => hl q (List.mem_cons_of_mem _ hq)
theorem cl_yield {l : Nat} {args : Array Value} (h : ¬ S.D l) (ha : ∀ v ∈ args, Ok S v) : Cl S P (Instr.yield l args) (NextOk S) := by
  unfold Instr.yield
  refine (cl_getLoop h).bind fun r hr => ?_
  have key : Cl S P (pure (.round l r.fn ((r.params.zip args).foldl (fun tmps (x : Tmp × Value) => tmps.setIfInBounds x.1 x.2) r.tmps) r.assign r.body) : Sem Next) (NextOk S) := by
    refine ⟨h, hr.1, ?_, hr.2.2.1, hr.2.2.2.1⟩
    rw [← Array.foldl_toList]
    refine fold_ok hr.2.1 fun p hp => ?_
    have : p ∈ r.params.zip args := Array.mem_toList_iff.1 hp
    exact ha _ (Array.of_mem_zip this).2
  exact cl_ite (fun _ => cl_seq cl_stuck key) fun _ => key
theorem cl_beginRound {l : Nat} (h : ¬ S.D l) : Cl S P (Instr.beginRound l) (fun _ => True) := by
  unfold Instr.beginRound
  refine (cl_getLoop h).bind fun r hr => cl_seq (cl_setObj h ⟨hr.1, hr.2.1, hr.2.2.1, hr.2.2.2.1, hr.2.2.2.2.1, hr.2.2.2.2.2⟩) ?_
  cases r.state <;> trivial
theorem cl_endRound {l : Nat} {jump : Option Code} (h : ¬ S.D l) (hj : ∀ c, jump = some c → S.C c) : Cl S P (Instr.endRound l jump) (Ok S) := by
  unfold Instr.endRound
  exact (cl_getLoop h).bind fun r hr => cl_seq (cl_setObj h ⟨hr.1, hr.2.1, hr.2.2.1, hr.2.2.2.1, hj, hr.2.2.2.2.2⟩) (cl_pure (.bool _))
theorem cl_endLoop {l : Nat} (h : ¬ S.D l) : Cl S P (Instr.endLoop l) (fun j => ∀ c, j = some c → S.C c) := by
  unfold Instr.endLoop
  refine (cl_getLoop h).bind fun r hr => ?_
  have key : Cl S P (do setObj l (.loop { r with state := .exhausted }); pure r.pending : Sem (Option Code)) (fun j => ∀ c, j = some c → S.C c) := cl_seq (cl_setObj h ⟨hr.1, hr.2.1, hr.2.2.1, hr.2.2.2.1, hr.2.2.2.2.1, hr.2.2.2.2.2⟩) (cl_pure hr.2.2.2.2.1)
  exact cl_ite (fun _ => cl_seq cl_error key) fun _ => key
theorem cl_takeDeferred {b : Nat} (h : ¬ S.D b) : Cl S P (Instr.takeDeferred b) (fun l => l = []) := by
  unfold Instr.takeDeferred
  refine cl_getObj h fun o ho => ?_
  cases o with
  | deferred ds =>
    cases ds with
    | none => exact cl_stuck
    | some l => exact cl_seq (cl_setObj h (fun l e => by cases e)) (cl_pure (ho l rfl))
  | _ => exact cl_stuck
end

section
variable {S : Scope} {P : Program} {fr : Frame} {w : World}
def leaves : Option Code → Bool | none => true | some .ret => true | _ => false
/-- A frame that leaves where it stands: a function's goes to its return; a round's goes back to whom it was yielded by. -/
theorem leave_out (hS : ScopeOk S P) (h : FrOk S P fr) (hw : HeapOk S w) {jump : Option Code} (hj : ∀ c, jump = some c → S.C c) {F : List Frame → World → GStep}
    (hF : ∀ cs w, F cs w = (match fr.roundOf with
      | none => if leaves jump then .go (G { fr with mode := .returning } cs) w else .ended (.stuck "exit, goto: no such block or label" (fr.pos P)) w
      | some l => let (r, es) := (Instr.endRound l jump).runT P w #[]
        GStep.after (seen P fr.fn es) <| match r with
        | .ok v w => doReturn P true fr cs none v w
        | .halt _ w => .ended (.stuck "range over a function: no such loop" (fr.pos P)) w)) : OutF S P fr w F := by
  cases hr : fr.roundOf with
  | none =>
    simp only [hr] at hF
    by_cases hc : leaves jump = true
    · refine OutF.ctl hw (fr' := { fr with mode := .returning }) ⟨h.fn, h.defers, h.round, h.tmps, h.todo⟩ ⟨rfl, rfl, rfl⟩ fun cs w => ?_
      rw [hF, if_pos hc, hr]
    · refine .dead 0 fun cs T d _ => ?_
      rw [hF, if_neg hc]
      exact ⟨_, _, _, rfl⟩
  | some l =>
    simp only [hr] at hF
    obtain ⟨res, es', m, hR⟩ := (cl_endRound (P := P) (h.round l hr) hj).runs _ w #[] hw
    have hg := good_of_ran hR fr.fn false
    cases res with
    | ok v w' =>
      refine .pop v w' _ m (by rw [hr]; simp) (hR.ok v w' rfl) hg fun c cs T d hk ha => ?_
      rw [hF]
      simp only [hR.run T d ha, rtp]
      simp [doReturn, hk, GStep.after, G]
    | halt h' w' =>
      refine .dead m fun cs T d ha => ?_
      rw [hF]
      simp only [hR.run T d ha, rtp]
      exact ⟨_, _, _, rfl⟩

set_option maxHeartbeats 3200000 in
/-- ████ A STEP OF A RUNNING FRAME's. ████ -/
theorem exec_step (hS : ScopeOk S P) (h : FrOk S P fr) (hm : fr.mode = .run) (hw : HeapOk S w) : OutF S P fr w (fun cs w => stepG P true (G fr cs) w) := by
  obtain ⟨fn, tmps, todo, defers, mode, kind, round⟩ := fr
  have hfr := h
  obtain ⟨h0, h1, h2, h3, h4⟩ := h
  simp only at h0 h1 h2 h3 h4 hm
  subst hm
  have to : ∀ todo', (∀ x ∈ todo', ItemOk S P x) → FrOk S P ⟨fn, tmps, todo', defers, .run, kind, round⟩ := fun t ht => ⟨h0, h1, h2, h3, ht⟩
  have sm : ∀ todo', Same ⟨fn, tmps, todo, defers, .run, kind, round⟩ ⟨fn, tmps, todo', defers, .run, kind, round⟩ := fun _ => ⟨rfl, rfl, rfl⟩
  cases todo with
  | nil => exact leave_out (jump := none) hS hfr hw (fun c e => by cases e) fun cs w => by cases round <;> rfl
  | cons it r =>
    have hit := h4 it (by simp)
    have hr : ∀ x ∈ r, ItemOk S P x := fun x hx => h4 x (List.mem_cons_of_mem _ hx)
    cases it with
    | code c =>
      cases c with
      | skip => exact .ctl hw (to r hr) (sm _) fun cs w => rfl
      | label l => exact .ctl hw (to r hr) (sm _) fun cs w => rfl
      | region id ops draw =>
        cases draw with
        | false => exact .ctl hw (to (.inRegion ops (List.range ops.size) :: r) (fun x hx => (List.mem_cons.1 hx).elim (fun e => e ▸ hit) (hr x))) (sm _) fun cs w => rfl
        | true =>
          refine .go ⟨fn, tmps, .inRegion ops (Region.schedule (P.follows .mixedOrders) ops (Question.cut (.order fn id) (w.tape w.drawn (.order fn id)))) :: r, defers, .run, kind, round⟩ { w with drawn := w.drawn + 1 } #[] 1
            (to _ fun x hx => (List.mem_cons.1 hx).elim (fun e => by rw [e]; exact hit) (hr x)) (sm _) ⟨⟨rfl, rfl, rfl, rfl, Nat.le_refl _, fun _ _ => rfl⟩, ⟨hw.low, hw.obj⟩, by simp⟩ fun cs T d ha => ?_
          have h0 : T d = w.tape w.drawn := by simpa using ha 0 Nat.one_pos
          rw [← h0]
          rfl
      | seq a b => exact .ctl hw (to (.code a :: .code b :: r) (fun x hx => by
          rcases List.mem_cons.1 hx with rfl | hx
          · exact hit.1
          · rcases List.mem_cons.1 hx with rfl | hx
            · exact hit.2
            · exact hr x hx)) (sm _) fun cs w => rfl
      | cond c a b =>
        cases hc : (Frame.eval ⟨fn, tmps, [], [], .run, kind, none⟩ c) with
        | bool t =>
          have he : ∀ todo' ds rd, Frame.eval ⟨fn, tmps, todo', ds, .run, kind, rd⟩ c = .bool t := fun todo' ds rd => by rw [← hc]; cases c <;> rfl
          refine .ctl (fr' := ⟨fn, tmps, .code (if t then a else b) :: r, defers, .run, kind, round⟩) hw (to _ fun x hx => ?_) (sm _) fun cs w => ?_
          · rcases List.mem_cons.1 hx with rfl | hx
            · show CodeOk S P _
              cases t
              · exact hit.2
              · exact hit.1
            · exact hr x hx
          · show (match Frame.eval ⟨fn, tmps, .code (.cond c a b) :: r, defers, .run, kind, round⟩ c with | .bool b' => _ | _ => _) = _
            rw [he]
            rfl
        | _ =>
          refine .dead 0 fun cs T d _ => ?_
          have he : ∀ todo' ds rd, Frame.eval ⟨fn, tmps, todo', ds, .run, kind, rd⟩ c = _ := fun todo' ds rd => Eq.trans (by cases c <;> rfl) hc
          show Ended (match Frame.eval ⟨fn, tmps, .code (.cond c a b) :: r, defers, .run, kind, round⟩ c with | .bool b' => _ | _ => _)
          rw [he]
          exact ⟨_, _, _, rfl⟩
      | block id body => exact .ctl hw (to (.code body :: .inBlock id :: r) (fun x hx => by
          rcases List.mem_cons.1 hx with rfl | hx
          · exact hit
          · rcases List.mem_cons.1 hx with rfl | hx
            · trivial
            · exact hr x hx)) (sm _) fun cs w => rfl
      | loop body => exact .ctl hw (to (.code body :: .inLoop body :: r) (fun x hx => by
          rcases List.mem_cons.1 hx with rfl | hx
          · exact hit
          · rcases List.mem_cons.1 hx with rfl | hx
            · exact hit
            · exact hr x hx)) (sm _) fun cs w => rfl
      | rangeFunc f params assign body =>
        obtain ⟨ha, hb, hcl⟩ := hit
        have hst : ∀ cs w, stepG P true (G ⟨fn, tmps, .code (.rangeFunc f params assign body) :: r, defers, .run, kind, round⟩ cs) w = (let (r', es) := (Instr.enterLoop fn tmps params assign body round).runT P w #[]
          GStep.after (seen P fn es) <| match r' with
          | .ok (l, mark) w => stepG.apply P true ⟨fn, tmps, .inRangeFunc l :: r, mark ++ defers, .run, kind, round⟩ cs none (rangeCall (Frame.eval ⟨fn, tmps, .inRangeFunc l :: r, mark ++ defers, .run, kind, round⟩) f l) w
          | .halt _ w => .ended (.stuck "range over a function: no such loop" (Frame.pos P ⟨fn, tmps, .code (.rangeFunc f params assign body) :: r, defers, .run, kind, round⟩)) w) := fun cs w => rfl
        obtain ⟨res, es', m, hR⟩ := (cl_enterLoop (P := P) (params := params) h0 h3 ha hb h2).runs _ w #[] hw
        have hg := good_of_ran hR fn false
        cases res with
        | ok x w' =>
          obtain ⟨l, mark⟩ := x
          obtain ⟨hl, hmk⟩ := hR.ok _ w' rfl
          have hfr1 : FrOk S P ⟨fn, tmps, .inRangeFunc l :: r, mark ++ defers, .run, kind, round⟩ := ⟨h0, fun d hd => (List.mem_append.1 hd).elim (hmk d) (h1 d), h2, h3, fun x hx => (List.mem_cons.1 hx).elim (fun e => e ▸ hl) (hr x)⟩
          refine OutF.after (fr1 := ⟨fn, tmps, .inRangeFunc l :: r, mark ++ defers, .run, kind, round⟩) ⟨rfl, rfl, rfl⟩ hg (apply_out hS hfr1 rfl (.inr (.inl ⟨l, r, rfl⟩)) (hcl ⟨fn, tmps, .inRangeFunc l :: r, mark ++ defers, .run, kind, round⟩ l h3 hl) hg.heap) fun cs T d hag => ?_
          simp only [hst, hR.run T d hag, rtp]
          rfl
        | halt h' w' =>
          refine .dead m fun cs T d hag => ?_
          simp only [hst, hR.run T d hag, rtp]
          exact ⟨_, _, _, rfl⟩
      | exit id =>
        cases hx : exitTo id r with
        | some r' =>
          refine .ctl (fr' := ⟨fn, tmps, r', defers, .run, kind, round⟩) hw (to r' fun x hx' => hr x (exitTo_sub id hx x hx')) (sm _) fun cs w => ?_
          show ((exitTo id r).elim _ _ : GStep) = _
          rw [hx]
          rfl
        | none =>
          refine leave_out (jump := some (.exit id)) hS hfr hw (fun c e => by cases e; exact hS.exit id) fun cs w => ?_
          show ((exitTo id r).elim _ _ : GStep) = _
          rw [hx]
          cases round <;> rfl
      | scope body => exact hit.elim
      | goto l => exact hit.elim
      | ret => exact leave_out (jump := some .ret) hS hfr hw (fun c e => by cases e; exact hS.ret) fun cs w => by cases round <;> rfl
      | refuse why => exact .dead 0 fun cs T d _ => ⟨_, _, _, rfl⟩
    | inBlock id => exact .ctl hw (to r hr) (sm _) fun cs w => rfl
    | inLoop body => exact .ctl hw (to (.code body :: .inLoop body :: r) (fun x hx => by
          rcases List.mem_cons.1 hx with rfl | hx
          · exact hit
          · rcases List.mem_cons.1 hx with rfl | hx
            · exact hit
            · exact hr x hx)) (sm _) fun cs w => rfl
    | inScope body => exact hit.elim
    | inRegion ops todo =>
      cases todo with
      | nil => exact .ctl hw (to r hr) (sm _) fun cs w => rfl
      | cons i rest =>
        cases hwt : ((ops[i]?).map (Region.wanted · (yielded ops tmps))).getD false with
        | false =>
          obtain ⟨f1, f2, f3⟩ := finish_ok hfr (.inl ⟨ops, i, rest, r, rfl⟩) (v := undef) ok_undef
          refine .ctl hw f1 f2 fun cs w => ?_
          show (if ((ops[i]?).map (Region.wanted · (yielded ops tmps))).getD false then _ else _ : GStep) = _
          rw [hwt]
          rfl
        | true =>
          obtain ⟨o, ho⟩ : ∃ o, ops[i]? = some o := by
            cases h : ops[i]? with
            | none => rw [h] at hwt; cases hwt
            | some o => exact ⟨o, rfl⟩
          have hoo := hit o (Array.mem_of_getElem? ho)
          have nd := hoo.1
          have hst2 : ∀ cs w, stepG P true (G ⟨fn, tmps, .inRegion ops (i :: rest) :: r, defers, .run, kind, round⟩ cs) w = stepG.apply P true ⟨fn, tmps, .inRegion ops (i :: rest) :: r, defers, .run, kind, round⟩ cs none (execOp (Frame.eval ⟨fn, tmps, .inRegion ops (i :: rest) :: r, defers, .run, kind, round⟩) o) w := fun cs w => by
            show (if ((ops[i]?).map (Region.wanted · (yielded ops tmps))).getD false then stepG.oper P true _ cs none w else _ : GStep) = _
            rw [hwt, if_pos rfl]
            unfold stepG.oper
            simp only [Frame.oper?, ho]
            cases round with
            | none => rfl
            | some l =>
              obtain ⟨d1, opp, d3, d4, d5, d6⟩ := o
              cases opp <;> first | rfl | exact absurd rfl (nd _)
          simp only [hst2]
          exact apply_out hS hfr rfl (.inl ⟨ops, i, rest, r, rfl⟩) (hoo.2 _ h3) hw
    | inRangeFunc l => exact .dead 0 fun cs T d _ => ⟨_, _, _, rfl⟩
    | endRangeFunc l =>
      obtain ⟨res, es', m, hR⟩ := (cl_endLoop (P := P) hit).runs _ w #[] hw
      have hg := good_of_ran hR fn false
      have hst : ∀ cs w, stepG P true (G ⟨fn, tmps, .endRangeFunc l :: r, defers, .run, kind, round⟩ cs) w = (let (r', es) := (Instr.endLoop l).runT P w #[]
        GStep.after (seen P fn es) <| match r' with
        | .ok jump w => .go (G ⟨fn, tmps, (jump.map Item.code).toList ++ r, defers, .run, kind, round⟩ cs) w
        | .halt (.panic v) w => .go (G (Frame.raise ⟨fn, tmps, .endRangeFunc l :: r, defers, .run, kind, round⟩ [{ v, recovered := false }]) cs) w
        | .halt _ w => .ended (.stuck "range over a function: no such loop" (Frame.pos P ⟨fn, tmps, .endRangeFunc l :: r, defers, .run, kind, round⟩)) w) := fun cs w => rfl
      cases res with
      | ok jump w' =>
        have hj := hR.ok jump w' rfl
        refine .go ⟨fn, tmps, (jump.map Item.code).toList ++ r, defers, .run, kind, round⟩ w' _ m (to _ fun x hx => ?_) (sm _) hg fun cs T d hag => ?_
        · rcases List.mem_append.1 hx with hx | hx
          · cases jump with
            | none => simp at hx
            | some c =>
              simp at hx
              subst hx
              exact hS.code c (hj c rfl)
          · exact hr x hx
        · simp only [hst, hR.run T d hag, rtp]
          simp [GStep.after]
      | halt h' w' =>
        have ha := hR.halt h' w' rfl
        cases h' with
        | panic v =>
          obtain ⟨f1, f2⟩ := raise_ok hfr [{ v, recovered := false }]
          refine .go _ w' _ m f1 f2 hg fun cs T d hag => ?_
          simp only [hst, hR.run T d hag, rtp]
          simp [GStep.after]
        | _ =>
          refine .dead m fun cs T d hag => ?_
          simp only [hst, hR.run T d hag, rtp]
          exact ⟨_, _, _, rfl⟩
    | beginRound =>
      have hcl : Cl S P (do round.elim (stuck "beginRound: no round") Instr.beginRound; pure .skip : Sem Next) (NextOk S) := by
        cases round with
        | none => exact cl_seq cl_stuck (cl_pure trivial)
        | some l => exact cl_seq (cl_beginRound (h2 l rfl)) (cl_pure trivial)
      exact apply_out hS hfr rfl (.inr (.inr ⟨r, rfl⟩)) hcl hw
    | call d wr res sv => exact hit.elim
    | extern row args => exact hit.elim
end

end Go.Proofs.YtiodikflmijhkaaGreatDoor.Vow
end

section
set_option linter.unusedSectionVars false
set_option linter.unusedVariables false
set_option linter.unusedSimpArgs false
namespace Go.Proofs.YtiodikflmijhkaaGreatDoor.Vow
open Go Go.Conc

/-- The callee's frames over the callers: 'up' is what lies beneath the frame, the callee's own one last. -/
def gS (cs : List Frame) (fr : Frame) (up : List Frame) : Goroutine := G fr (up ++ cs)
def OkSt (S : Scope) (P : Program) : Frame → List Frame → Prop
  | fr, [] => FrOk S P fr ∧ fr.roundOf = none
  | fr, c :: r => FrOk S P fr ∧ fr.kind = .normal ∧ Calling c ∧ c.mode = .run ∧ OkSt S P c r
def Stopped (fr : Frame) (up : List Frame) : Prop := up = [] ∧ fr.mode ≠ .run ∧ fr.defers = []

section
variable {S : Scope} {P : Program} {fr : Frame} {up : List Frame} {w : World}

theorem OkSt.top (h : OkSt S P fr up) : FrOk S P fr := by
  cases up with
  | nil => exact h.1
  | cons c r => exact h.1
theorem OkSt.swap {fr' : Frame} (h : OkSt S P fr up) (h' : FrOk S P fr') (e : Same fr fr') : OkSt S P fr' up := by
  cases up with
  | nil => exact ⟨h', by rw [e.2.2]; exact h.2⟩
  | cons c r => exact ⟨h', by rw [e.2.1]; exact h.2.1, h.2.2⟩

inductive Step1 (S : Scope) (P : Program) (fr : Frame) (up : List Frame) (w : World) : Prop
  | go (fr' : Frame) (up' : List Frame) (w' : World) (es : Array Event) (m : Nat) : OkSt S P fr' up' → Good S w w' es m →
      (∀ cs T d, Agr w m T d → stepG P true (gS cs fr up) (tp w T d) = .go (gS cs fr' up') (tp w' T (d + m)) es) → Step1 S P fr up w
  | dead (m : Nat) : (∀ cs T d, Agr w m T d → Ended (stepG P true (gS cs fr up) (tp w T d))) → Step1 S P fr up w

/-- The marks of its loops are taken one by one. -/
theorem marks_step (h : OkSt S P fr up) (hw : HeapOk S w) (hm : fr.mode ≠ .run) {dd : Deferred} {ds : List Deferred} (hd : fr.defers = dd :: ds) : Step1 S P fr up w := by
  have htop := h.top
  obtain ⟨b, e, hb⟩ := htop.defers dd (by rw [hd]; simp)
  subst e
  obtain ⟨res, es', m, hR⟩ := (cl_takeDeferred (P := P) hb).runs _ w #[] hw
  have hg := good_of_ran hR fr.fn false
  have hst : ∀ cs T d, Agr w m T d → stepG P true (gS cs fr up) (tp w T d) = GStep.after (seen P fr.fn es') (match rtp res T (d + m) with
      | .ok calls w => .go (gS cs { fr with defers := calls ++ ds } up) w
      | .halt _ w => .ended (.stuck "the deferred calls of a range-over-func loop have been taken" (fr.pos P)) w) := fun cs T d ha => by
    have := hR.run T d ha
    cases hmd : fr.mode with
    | run => exact absurd hmd hm
    | returning =>
      simp only [gS, G, stepG, hmd, unwind, hd, this]
      rfl
    | panicking c =>
      simp only [gS, G, stepG, hmd, unwind, hd, this]
      rfl
  cases res with
  | ok calls w' =>
    have hc := hR.ok calls w' rfl
    subst hc
    refine .go { fr with defers := ds } up w' _ m (h.swap ⟨htop.fn, fun x hx => htop.defers x (by rw [hd]; exact List.mem_cons_of_mem _ hx), htop.round, htop.tmps, htop.todo⟩ ⟨rfl, rfl, rfl⟩) hg fun cs T d ha => ?_
    rw [hst cs T d ha]
    simp [rtp, GStep.after]
  | halt h' w' =>
    refine .dead m fun cs T d ha => ?_
    rw [hst cs T d ha]
    exact ⟨_, _, _, rfl⟩

set_option maxHeartbeats 1600000 in
/-- ████ A STEP. ████ -/
theorem step_st (hS : ScopeOk S P) (h : OkSt S P fr up) (hw : HeapOk S w) (hn : ¬ Stopped fr up) : Step1 S P fr up w := by
  have htop := h.top
  by_cases hmr : fr.mode = .run
  · rcases exec_step hS htop hmr hw with ⟨fr', w', es, m, h1, h2, h3, h4⟩ | ⟨fr1, g, w', es, m, h1, h2, h3, h4, h5, h6, h7, h8⟩ | ⟨v, w', es, m, h1, h2, h3, h4⟩ | ⟨m, h1⟩
    · exact .go fr' up w' es m (h.swap h1 h2) h3 fun cs T d ha => h4 _ T d ha
    · exact .go g (fr1 :: up) w' es m ⟨h5, h6, h4, h3, h.swap h1 h2⟩ h7 fun cs T d ha => h8 _ T d ha
    · cases up with
      | nil => exact absurd h.2 h1
      | cons c r =>
        obtain ⟨_, hk, hc, hcm, hup⟩ := h
        obtain ⟨f1, f2, f3⟩ := finish_ok hup.top hc (v := v) h2
        exact .go (c.finish v) r w' es m (hup.swap f1 f2) h3 fun cs T d ha => h4 c _ T d hk ha
    · exact .dead m fun cs T d ha => h1 _ T d ha
  cases hd : fr.defers with
  | cons dd ds => exact marks_step h hw hmr hd
  | nil =>
  cases hm : fr.mode with
  | run => exact absurd hm hmr
  | returning =>
    cases up with
    | nil => exact absurd ⟨rfl, hmr, hd⟩ hn
    | cons c r =>
      obtain ⟨_, hk, hc, hcm, hup⟩ := h
      obtain ⟨fn, c0, hb, hb2, _⟩ := hS.body _ htop.fn
      obtain ⟨res, es', m, hR⟩ := (hS.res _ fn htop.fn hb fr.tmps htop.tmps).runs _ w #[] hw
      have hg := good_of_ran hR fr.fn false
      have hst : ∀ cs T d, Agr w m T d → stepG P true (G fr cs) (tp w T d) = GStep.after (seen P fr.fn es') (match rtp res T (d + m) with
          | .ok v w => doReturn P true fr cs none v w
          | .halt (.stuck s) w => .ended (.stuck s (fr.pos P)) w
          | .halt _ w => .ended (.stuck "return: the result variables cannot be read" (fr.pos P)) w) := fun cs T d ha => by
        have := hR.run T d ha
        simp only [G, stepG, hm, unwind, hd, hb, this]
        rfl
      cases res with
      | ok v w' =>
        obtain ⟨f1, f2, f3⟩ := finish_ok hup.top hc (v := v) (hR.ok v w' rfl)
        refine .go (c.finish v) r w' _ m (hup.swap f1 f2) hg fun cs T d ha => ?_
        show stepG P true (G fr (c :: r ++ cs)) _ = _
        rw [hst _ T d ha]
        simp [rtp, doReturn, hk, gS, G, GStep.after]
      | halt hh w' =>
        refine .dead m fun cs T d ha => ?_
        show Ended (stepG P true (G fr (c :: r ++ cs)) _)
        rw [hst _ T d ha]
        cases hh <;> exact ⟨_, _, _, rfl⟩
  | panicking chain =>
    cases up with
    | nil => exact absurd ⟨rfl, hmr, hd⟩ hn
    | cons c r =>
      obtain ⟨_, hk, hc, hcm, hup⟩ := h
      obtain ⟨fn, c0, hb, hb2, _⟩ := hS.body _ htop.fn
      have hcat : fr.catches P = false := by simp [Frame.catches, hb]
      obtain ⟨f1, f2⟩ := raise_ok hup.top chain
      refine .go (c.raise chain) r w #[] 0 (hup.swap f1 f2) (good_refl hw) fun cs T d ha => ?_
      simp [gS, G, stepG, hm, unwind, hd, hcat]

/-! ### the tree -/
/-- From here on every step goes on, whatever is drawn between the steps, until a stop. -/
inductive Tree (S : Scope) (P : Program) (Q : Frame → World → Prop) : Frame → List Frame → World → Prop
  | stop (fr : Frame) (w : World) (T : Nat → Question → Nat) (d : Nat) : Q fr (tp w T d) → HeapOk S w → FrOk S P fr → Tree S P Q fr [] w
  | step (fr : Frame) (up : List Frame) (w : World) (f : Nat → Frame) (u : Nat → List Frame) (v : Nat → World) (es : Nat → Array Event) (m : Nat → Nat) :
      (∀ d cs, stepG P true (gS cs fr up) (tp w w.tape d) = .go (gS cs (f d) (u d)) (v d) (es d)) → (∀ d, Good S (tp w w.tape d) (v d) (es d) (m d)) → (∀ d, Tree S P Q (f d) (u d) (v d)) → Tree S P Q fr up w

/-- Beneath the frames: a frame that neither a result nor a panic brings on. -/
def pc : Frame := { fn := 0, tmps := #[], todo := [.code (.refuse "")], defers := [{ target := .nil, args := #[] }], mode := .run, kind := .normal }

theorem step_solo_ended {a : Goroutine} {o : Outcome} {w w' : World} {es : Array Event} (hs : a = G a.frame a.callers) (h : stepG P true a w = .ended o w' es) : step P (solo a w) = .ended o w' := by
  rw [hs] at h ⊢
  exact step_lone_ended (fr := a.frame) (cs := a.callers) (by rw [show stepG P true { frame := a.frame, callers := a.callers, status := .running, dying := none } w = _ from h]; rfl)
theorem runN_ended {m : Machine} {o : Outcome} {w' : World} (h : step P m = .ended o w') (n : Nat) (m' : Machine) : runN P (n + 1) m ≠ .next m' := by
  simp [runN, h]
end

end Go.Proofs.YtiodikflmijhkaaGreatDoor.Vow
end
