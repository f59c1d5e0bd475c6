/- Joined texts: N2. -/
import Derived.Test.YtiodikflmijhkaaGreatDoorJ39
import Derived.Conc.Own
import Derived.Conc.Listed
import Derived.Conc.LoneCalls
set_option linter.unusedSectionVars false
set_option linter.unusedVariables false
set_option linter.unusedSimpArgs false
namespace Go.Proofs.YtiodikflmijhkaaGreatDoor.Nmo
open Go Go.Conc

/-- The functions that may be entered; the first blocks. -/
structure Scope where
  F : FuncId → Prop
  N : Nat
def NextOk (S : Scope) : Next → Prop
  | .value v => True
  | .skip => True
  | .enter f args => S.F f
  | _ => False
def OpOk (S : Scope) (P : Program) (o : Oper) : Prop := (∀ c, o.op ≠ .defer c) ∧ ∀ fr : Frame, Cl P (execOp fr.eval o) (NextOk S)
def CodeOk (S : Scope) (P : Program) : Code → Prop
  | .skip | .ret | .label _ | .exit _ | .refuse _ => True
  | .region _ ops _ => ∀ o ∈ ops, OpOk S P o
  | .seq a b => CodeOk S P a ∧ CodeOk S P b
  | .cond _ a b => CodeOk S P a ∧ CodeOk S P b
  | .block _ b | .loop b => CodeOk S P b
  | _ => False
def ItemOk (S : Scope) (P : Program) : Item → Prop
  | .code c => CodeOk S P c
  | .inBlock _ => True
  | .inLoop b => CodeOk S P b
  | .inRegion ops _ => ∀ o ∈ ops, OpOk S P o
  | _ => False
structure FrOk (S : Scope) (P : Program) (fr : Frame) : Prop where
  fn : S.F fr.fn
  defers : fr.defers = []
  round : fr.roundOf = none
  todo : ∀ it ∈ fr.todo, ItemOk S P it
structure ScopeOk (S : Scope) (P : Program) : Prop where
  body : ∀ f, S.F f → ∃ fn c, P.funcs[f]? = some fn ∧ fn.body = some c ∧ CodeOk S P c
  res : ∀ f fn, S.F f → P.funcs[f]? = some fn → ∀ tmps, Cl P (results fn tmps) (fun _ => True)
  early : ∀ fr cs g w, S.N ≤ g → ∃ o w' es, Go.early P fr cs none g w = .ended o w' es

def Agr (w : World) (m : Nat) (T : Nat → Question → Nat) (d : Nat) : Prop := ∀ i, i < m → T (d + i) = w.tape (w.drawn + i)

structure Good (S : Scope) (w w' : World) (es : Array Event) (m : Nat) : Prop where
  kept : Kept w w' m
  heap : Cells S.N w'
  evs : ∀ e ∈ es, EvV w'.heap.size e

def Ended (s : GStep) : Prop := ∃ o w es, s = .ended o w es
def Calling (fr : Frame) : Prop := ∃ ops i rest k, fr.todo = .inRegion ops (i :: rest) :: k
def Same (fr fr' : Frame) : Prop := fr'.fn = fr.fn ∧ fr'.kind = fr.kind ∧ fr'.roundOf = fr.roundOf
theorem Same.rfl {fr : Frame} : Same fr fr := ⟨Eq.refl _, Eq.refl _, Eq.refl _⟩
theorem Same.trans {a b c : Frame} (h : Same a b) (k : Same b c) : Same a c := ⟨k.1.trans h.1, k.2.1.trans h.2.1, k.2.2.trans h.2.2⟩

/-- What a step makes of a frame: 'F' is the step, over whatever callers, on whatever tape. -/
inductive OutF (S : Scope) (P : Program) (fr : Frame) (w : World) (F : List Frame → World → GStep) : Prop
  | go (fr' : Frame) (w' : World) (es : Array Event) (m : Nat) : FrOk S P fr' → Same fr fr' → Good S w w' es m → (∀ cs T d, Agr w m T d → F cs (tp w T d) = .go (G fr' cs) (tp w' T (d + m)) es) → OutF S P fr w F
  | enter (g : Frame) (w' : World) (es : Array Event) (m : Nat) : fr.mode = .run → Calling fr → FrOk S P g → g.kind = .normal → Good S w w' es m →
      (∀ cs T d, Agr w m T d → F cs (tp w T d) = .go (G g (fr :: cs)) (tp w' T (d + m)) es) → OutF S P fr w F
  | dead (m : Nat) : (∀ cs T d, Agr w m T d → Ended (F cs (tp w T d))) → OutF S P fr w F

section
variable {S : Scope} {P : Program} {fr : Frame} {w : World} {F : List Frame → World → GStep}
theorem good_refl (hw : Cells S.N w) : Good S w w #[] 0 := ⟨Kept.refl w, hw, by simp⟩
theorem OutF.ctl {fr' : Frame} (hw : Cells S.N w) (h : FrOk S P fr') (h1 : Same fr fr') (hs : ∀ cs w, F cs w = .go (G fr' cs) w) : OutF S P fr w F :=
  .go fr' w #[] 0 h h1 (good_refl hw) fun cs T d _ => hs cs (tp w T d)
theorem exitTo_sub (id : Nat) : ∀ {l r : List Item}, exitTo id l = some r → ∀ it ∈ r, it ∈ l
  | [], _, h => by cases h
  | it :: l, r, h => by
    have key : exitTo id l = some r → ∀ x ∈ r, x ∈ it :: l := fun h x hx => List.mem_cons_of_mem _ (exitTo_sub id h x hx)
    cases it with
    | inBlock id' =>
      simp only [exitTo] at h
      split at h
      · cases h; exact fun x hx => List.mem_cons_of_mem _ hx
      · exact key h
    | _ => exact key (by simpa only [exitTo] using h)

/-- What 'finish' leaves. -/
theorem finish_ok (h : FrOk S P fr) (hc : Calling fr) (v : Value) : FrOk S P (fr.finish v) ∧ Same fr (fr.finish v) ∧ (fr.finish v).mode = fr.mode := by
  obtain ⟨fn, tmps, todo, defers, mode, kind, round⟩ := fr
  obtain ⟨h0, h1, h2, h4⟩ := h
  simp only at h0 h1 h2 h4
  obtain ⟨ops, i, rest, r, ht⟩ := hc
  simp only at ht
  subst ht
  refine ⟨⟨h0, h1, h2, ?_⟩, ⟨rfl, rfl, rfl⟩, rfl⟩
  intro it hit
  rcases List.mem_cons.1 hit with rfl | h
  · exact h4 (.inRegion ops (i :: rest)) (by simp)
  · exact h4 it (List.mem_cons_of_mem _ h)
theorem raise_ok {c : Frame} (h : FrOk S P c) (vs : List PanicEntry) : FrOk S P (c.raise vs) ∧ Same c (c.raise vs) := by
  obtain ⟨fn, tmps, todo, defers, mode, kind, round⟩ := c
  obtain ⟨h0, h1, h2, h4⟩ := h
  cases mode <;> exact ⟨⟨h0, h1, h2, h4⟩, rfl, rfl, rfl⟩
theorem enter_ok (hS : ScopeOk S P) {f : FuncId} {args : Array Value} (hf : S.F f) : FrOk S P (Frame.enter P f args .normal) := by
  obtain ⟨fn, c, h1, h2, h3⟩ := hS.body f hf
  refine ⟨hf, rfl, rfl, fun it hit => ?_⟩
  simp only [Frame.enter, h1, Option.bind_some, h2, Option.getD_some, List.mem_singleton] at hit
  subst hit
  exact h3
/-- The events that a piece of a step lists. -/
theorem good_of_ran {α : Type} {s : Sem α} {Φ : α → Prop} {r : Result α} {es' : Array Event} {m : Nat} (hR : Ran S.N P s w #[] Φ r es' m) (fn : FuncId) (b : Bool) : Good S w (rw_ r) (seen P fn (if b then #[] else es')) m :=
  ⟨hR.kept, hR.cells, fun e he => by
    have := mem_seen he
    split at this
    · simp at this
    · exact hR.evs (by simp) e this⟩

set_option maxHeartbeats 1600000 in
/-- ████ AN OPERATION OF A FRAME's. ████ -/
theorem apply_out (hS : ScopeOk S P) (h : FrOk S P fr) (hm : fr.mode = .run) (hc : Calling fr) {s : Sem Next} (hcl : Cl P s (NextOk S)) (hw : Cells S.N w) : OutF S P fr w (fun cs w => stepG.apply P true fr cs none s w) := by
  obtain ⟨res, es', m, hR⟩ := hcl.runs (N := S.N) _ w #[] hw
  obtain ⟨ev, hev⟩ : ∃ ev : Array Event, ev = seen P fr.fn (if fr.kind == .early then #[] else es') := ⟨_, rfl⟩
  have hgood : Good S w (rw_ res) ev m := hev ▸ good_of_ran hR _ _
  cases res with
  | ok a w' =>
    have ha := hR.ok a w' rfl
    cases a with
    | value v =>
      obtain ⟨f1, f2, f3⟩ := finish_ok h hc v
      refine .go (fr.finish v) w' ev m f1 f2 hgood fun cs T d hag => ?_
      simp only [stepG.apply, if_true, hR.run T d hag, rtp, hev]
      simp [GStep.after, G]
    | skip =>
      obtain ⟨f1, f2, f3⟩ := finish_ok h hc undef
      refine .go (fr.finish undef) w' ev m f1 f2 hgood fun cs T d hag => ?_
      simp only [stepG.apply, if_true, hR.run T d hag, rtp, hev]
      simp [GStep.after, G]
    | enter f args =>
      refine .enter (Frame.enter P f args .normal) w' ev m hm hc (enter_ok hS ha) rfl hgood fun cs T d hag => ?_
      simp only [stepG.apply, if_true, hR.run T d hag, rtp, hev]
      simp [GStep.after, G]
      obtain ⟨ops, i, rest, r, ht⟩ := hc
      rw [ht]
    | _ => exact ha.elim
  | halt h' w' =>
    have ha := hR.halt h' w' rfl
    cases h' with
    | panic v =>
      obtain ⟨f1, f2⟩ := raise_ok h [{ v, recovered := false }]
      refine .go (fr.raise [{ v, recovered := false }]) w' ev m f1 f2 hgood fun cs T d hag => ?_
      simp only [stepG.apply, if_true, hR.run T d hag, rtp, hev]
      simp [GStep.after, G]
    | stuck why =>
      refine .dead m fun cs T d hag => ?_
      simp only [stepG.apply, if_true, hR.run T d hag, rtp]
      exact ⟨_, _, _, rfl⟩
    | unsupported u =>
      refine .dead m fun cs T d hag => ?_
      simp only [stepG.apply, if_true, hR.run T d hag, rtp]
      cases u with
      | initOrder g =>
        obtain ⟨o, w2, es2, he⟩ := hS.early fr cs g (tp w' T (d + m)) (ha g rfl)
        simp only [he]
        exact ⟨_, _, _, rfl⟩
      | _ => exact ⟨_, _, _, rfl⟩
    | _ => exact ha.elim
end

section
variable {S : Scope} {P : Program} {fr : Frame} {w : World}
def leaves : Option Code → Bool | none => true | some .ret => true | _ => false
/-- A frame that leaves where it stands goes to its return. -/
theorem leave_out (hS : ScopeOk S P) (h : FrOk S P fr) (hw : Cells S.N w) {jump : Option Code} {F : List Frame → World → GStep}
    (hF : ∀ cs w, F cs w = (if leaves jump then .go (G { fr with mode := .returning } cs) w else .ended (.stuck "exit, goto: no such block or label" (fr.pos P)) w)) : OutF S P fr w F := by
  by_cases hc : leaves jump = true
  · refine OutF.ctl hw (fr' := { fr with mode := .returning }) ⟨h.fn, h.defers, h.round, h.todo⟩ ⟨rfl, rfl, rfl⟩ fun cs w => ?_
    rw [hF, if_pos hc]
  · refine .dead 0 fun cs T d _ => ?_
    rw [hF, if_neg hc]
    exact ⟨_, _, _, rfl⟩

set_option maxHeartbeats 3200000 in
/-- ████ A STEP OF A RUNNING FRAME's. ████ -/
theorem exec_step (hS : ScopeOk S P) (h : FrOk S P fr) (hm : fr.mode = .run) (hw : Cells S.N w) : OutF S P fr w (fun cs w => stepG P true (G fr cs) w) := by
  obtain ⟨fn, tmps, todo, defers, mode, kind, round⟩ := fr
  have hfr := h
  obtain ⟨h0, h1, h2, h4⟩ := h
  simp only at h0 h1 h2 h4 hm
  subst hm h1 h2
  have to : ∀ todo', (∀ x ∈ todo', ItemOk S P x) → FrOk S P ⟨fn, tmps, todo', [], .run, kind, none⟩ := fun t ht => ⟨h0, rfl, rfl, ht⟩
  have sm : ∀ todo', Same ⟨fn, tmps, todo, [], .run, kind, none⟩ ⟨fn, tmps, todo', [], .run, kind, none⟩ := fun _ => ⟨rfl, rfl, rfl⟩
  cases todo with
  | nil => exact leave_out (jump := none) hS hfr hw fun cs w => rfl
  | cons it r =>
    have hit := h4 it (by simp)
    have hr : ∀ x ∈ r, ItemOk S P x := fun x hx => h4 x (List.mem_cons_of_mem _ hx)
    cases it with
    | code c =>
      cases c with
      | skip => exact .ctl hw (to r hr) (sm _) fun cs w => rfl
      | label l => exact .ctl hw (to r hr) (sm _) fun cs w => rfl
      | region id ops draw =>
        cases draw with
        | false => exact .ctl hw (to (.inRegion ops (List.range ops.size) :: r) (fun x hx => (List.mem_cons.1 hx).elim (fun e => e ▸ hit) (hr x))) (sm _) fun cs w => rfl
        | true =>
          refine .go ⟨fn, tmps, .inRegion ops (Region.schedule (P.follows .mixedOrders) ops (Question.cut (.order fn id) (w.tape w.drawn (.order fn id)))) :: r, [], .run, kind, none⟩ { w with drawn := w.drawn + 1 } #[] 1
            (to _ fun x hx => (List.mem_cons.1 hx).elim (fun e => by rw [e]; exact hit) (hr x)) (sm _) ⟨⟨rfl, rfl, rfl, rfl, Nat.le_refl _⟩, hw, by simp⟩ fun cs T d ha => ?_
          have h0 : T d = w.tape w.drawn := by simpa using ha 0 Nat.one_pos
          rw [← h0]
          rfl
      | seq a b => exact .ctl hw (to (.code a :: .code b :: r) (fun x hx => by
          rcases List.mem_cons.1 hx with rfl | hx
          · exact hit.1
          · rcases List.mem_cons.1 hx with rfl | hx
            · exact hit.2
            · exact hr x hx)) (sm _) fun cs w => rfl
      | cond c a b =>
        cases hc : (Frame.eval ⟨fn, tmps, [], [], .run, kind, none⟩ c) with
        | bool t =>
          have he : ∀ todo' ds rd, Frame.eval ⟨fn, tmps, todo', ds, .run, kind, rd⟩ c = .bool t := fun todo' ds rd => by rw [← hc]; cases c <;> rfl
          refine .ctl (fr' := ⟨fn, tmps, .code (if t then a else b) :: r, [], .run, kind, none⟩) hw (to _ fun x hx => ?_) (sm _) fun cs w => ?_
          · rcases List.mem_cons.1 hx with rfl | hx
            · show CodeOk S P _
              cases t
              · exact hit.2
              · exact hit.1
            · exact hr x hx
          · show (match Frame.eval ⟨fn, tmps, .code (.cond c a b) :: r, [], .run, kind, none⟩ c with | .bool b' => _ | _ => _) = _
            rw [he]
            rfl
        | _ =>
          refine .dead 0 fun cs T d _ => ?_
          have he : ∀ todo' ds rd, Frame.eval ⟨fn, tmps, todo', ds, .run, kind, rd⟩ c = _ := fun todo' ds rd => Eq.trans (by cases c <;> rfl) hc
          show Ended (match Frame.eval ⟨fn, tmps, .code (.cond c a b) :: r, [], .run, kind, none⟩ c with | .bool b' => _ | _ => _)
          rw [he]
          exact ⟨_, _, _, rfl⟩
      | block id body => exact .ctl hw (to (.code body :: .inBlock id :: r) (fun x hx => by
          rcases List.mem_cons.1 hx with rfl | hx
          · exact hit
          · rcases List.mem_cons.1 hx with rfl | hx
            · trivial
            · exact hr x hx)) (sm _) fun cs w => rfl
      | loop body => exact .ctl hw (to (.code body :: .inLoop body :: r) (fun x hx => by
          rcases List.mem_cons.1 hx with rfl | hx
          · exact hit
          · rcases List.mem_cons.1 hx with rfl | hx
            · exact hit
            · exact hr x hx)) (sm _) fun cs w => rfl
      | rangeFunc f params assign body => exact hit.elim
      | exit id =>
        cases hx : exitTo id r with
        | some r' =>
          refine .ctl (fr' := ⟨fn, tmps, r', [], .run, kind, none⟩) hw (to r' fun x hx' => hr x (exitTo_sub id hx x hx')) (sm _) fun cs w => ?_
          show ((exitTo id r).elim _ _ : GStep) = _
          rw [hx]
          rfl
        | none =>
          refine leave_out (jump := some (.exit id)) hS hfr hw fun cs w => ?_
          show ((exitTo id r).elim _ _ : GStep) = _
          rw [hx]
          rfl
      | scope body => exact hit.elim
      | goto l => exact hit.elim
      | ret => exact leave_out (jump := some .ret) hS hfr hw fun cs w => rfl
      | refuse why => exact .dead 0 fun cs T d _ => ⟨_, _, _, rfl⟩
    | inBlock id => exact .ctl hw (to r hr) (sm _) fun cs w => rfl
    | inLoop body => exact .ctl hw (to (.code body :: .inLoop body :: r) (fun x hx => by
          rcases List.mem_cons.1 hx with rfl | hx
          · exact hit
          · rcases List.mem_cons.1 hx with rfl | hx
            · exact hit
            · exact hr x hx)) (sm _) fun cs w => rfl
    | inScope body => exact hit.elim
    | inRegion ops todo =>
      cases todo with
      | nil => exact .ctl hw (to r hr) (sm _) fun cs w => rfl
      | cons i rest =>
        cases hwt : ((ops[i]?).map (Region.wanted · (yielded ops tmps))).getD false with
        | false =>
          obtain ⟨f1, f2, f3⟩ := finish_ok hfr ⟨ops, i, rest, r, rfl⟩ undef
          refine .ctl hw f1 f2 fun cs w => ?_
          show (if ((ops[i]?).map (Region.wanted · (yielded ops tmps))).getD false then _ else _ : GStep) = _
          rw [hwt]
          rfl
        | true =>
          obtain ⟨o, ho⟩ : ∃ o, ops[i]? = some o := by
            cases h : ops[i]? with
            | none => rw [h] at hwt; cases hwt
            | some o => exact ⟨o, rfl⟩
          have hoo := hit o (Array.mem_of_getElem? ho)
          have nd := hoo.1
          have hst2 : ∀ cs w, stepG P true (G ⟨fn, tmps, .inRegion ops (i :: rest) :: r, [], .run, kind, none⟩ cs) w = stepG.apply P true ⟨fn, tmps, .inRegion ops (i :: rest) :: r, [], .run, kind, none⟩ cs none (execOp (Frame.eval ⟨fn, tmps, .inRegion ops (i :: rest) :: r, [], .run, kind, none⟩) o) w := fun cs w => by
            show (if ((ops[i]?).map (Region.wanted · (yielded ops tmps))).getD false then stepG.oper P true _ cs none w else _ : GStep) = _
            rw [hwt, if_pos rfl]
            unfold stepG.oper
            simp only [Frame.oper?, ho]
          simp only [hst2]
          exact apply_out hS hfr rfl ⟨ops, i, rest, r, rfl⟩ (hoo.2 _) hw
    | inRangeFunc l => exact hit.elim
    | endRangeFunc l => exact hit.elim
    | beginRound => exact hit.elim
    | call d wr res sv => exact hit.elim
    | extern row args => exact hit.elim
end

/-- The callee's frames over the callers: 'up' is what lies beneath the frame, the callee's own one last. -/
def gS (cs : List Frame) (fr : Frame) (up : List Frame) : Goroutine := G fr (up ++ cs)
def OkSt (S : Scope) (P : Program) : Frame → List Frame → Prop
  | fr, [] => FrOk S P fr
  | fr, c :: r => FrOk S P fr ∧ fr.kind = .normal ∧ Calling c ∧ c.mode = .run ∧ OkSt S P c r
def Stopped (fr : Frame) (up : List Frame) : Prop := up = [] ∧ fr.mode ≠ .run

section
variable {S : Scope} {P : Program} {fr : Frame} {up : List Frame} {w : World}

theorem OkSt.top (h : OkSt S P fr up) : FrOk S P fr := by
  cases up with
  | nil => exact h
  | cons c r => exact h.1
theorem OkSt.swap {fr' : Frame} (h : OkSt S P fr up) (h' : FrOk S P fr') (e : Same fr fr') : OkSt S P fr' up := by
  cases up with
  | nil => exact h'
  | cons c r => exact ⟨h', by rw [e.2.1]; exact h.2.1, h.2.2⟩

inductive Step1 (S : Scope) (P : Program) (fr : Frame) (up : List Frame) (w : World) : Prop
  | go (fr' : Frame) (up' : List Frame) (w' : World) (es : Array Event) (m : Nat) : OkSt S P fr' up' → Good S w w' es m →
      (∀ cs T d, Agr w m T d → stepG P true (gS cs fr up) (tp w T d) = .go (gS cs fr' up') (tp w' T (d + m)) es) → Step1 S P fr up w
  | dead (m : Nat) : (∀ cs T d, Agr w m T d → Ended (stepG P true (gS cs fr up) (tp w T d))) → Step1 S P fr up w

set_option maxHeartbeats 1600000 in
/-- ████ A STEP. ████ -/
theorem step_st (hS : ScopeOk S P) (h : OkSt S P fr up) (hw : Cells S.N w) (hn : ¬ Stopped fr up) : Step1 S P fr up w := by
  have htop := h.top
  by_cases hmr : fr.mode = .run
  · rcases exec_step hS htop hmr hw with ⟨fr', w', es, m, h1, h2, h3, h4⟩ | ⟨g, w', es, m, h3, h4, h5, h6, h7, h8⟩ | ⟨m, h1⟩
    · exact .go fr' up w' es m (h.swap h1 h2) h3 fun cs T d ha => h4 _ T d ha
    · exact .go g (fr :: up) w' es m ⟨h5, h6, h4, h3, h⟩ h7 fun cs T d ha => h8 _ T d ha
    · exact .dead m fun cs T d ha => h1 _ T d ha
  have hd := htop.defers
  cases hm : fr.mode with
  | run => exact absurd hm hmr
  | returning =>
    cases up with
    | nil => exact absurd ⟨rfl, hmr⟩ hn
    | cons c r =>
      obtain ⟨_, hk, hc, hcm, hup⟩ := h
      obtain ⟨fn, c0, hb, hb2, _⟩ := hS.body _ htop.fn
      obtain ⟨res, es', m, hR⟩ := (hS.res _ fn htop.fn hb fr.tmps).runs (N := S.N) _ w #[] hw
      have hg := good_of_ran hR fr.fn false
      have hst : ∀ cs T d, Agr w m T d → stepG P true (G fr cs) (tp w T d) = GStep.after (seen P fr.fn es') (match rtp res T (d + m) with
          | .ok v w => doReturn P true fr cs none v w
          | .halt (.stuck s) w => .ended (.stuck s (fr.pos P)) w
          | .halt _ w => .ended (.stuck "return: the result variables cannot be read" (fr.pos P)) w) := fun cs T d ha => by
        have := hR.run T d ha
        simp only [G, stepG, hm, unwind, hd, hb, this]
        rfl
      cases res with
      | ok v w' =>
        obtain ⟨f1, f2, f3⟩ := finish_ok hup.top hc v
        refine .go (c.finish v) r w' _ m (hup.swap f1 f2) hg fun cs T d ha => ?_
        show stepG P true (G fr (c :: r ++ cs)) _ = _
        rw [hst _ T d ha]
        simp [rtp, doReturn, hk, gS, G, GStep.after]
      | halt hh w' =>
        refine .dead m fun cs T d ha => ?_
        show Ended (stepG P true (G fr (c :: r ++ cs)) _)
        rw [hst _ T d ha]
        cases hh <;> exact ⟨_, _, _, rfl⟩
  | panicking chain =>
    cases up with
    | nil => exact absurd ⟨rfl, hmr⟩ hn
    | cons c r =>
      obtain ⟨_, hk, hc, hcm, hup⟩ := h
      obtain ⟨fn, c0, hb, hb2, _⟩ := hS.body _ htop.fn
      have hcat : fr.catches P = false := by simp [Frame.catches, hb]
      obtain ⟨f1, f2⟩ := raise_ok hup.top chain
      refine .go (c.raise chain) r w #[] 0 (hup.swap f1 f2) (good_refl hw) fun cs T d ha => ?_
      simp [gS, G, stepG, hm, unwind, hd, hcat]

/-! ### the tree -/
/-- From here on every step goes on, whatever is drawn between the steps, until a stop. -/
inductive Tree (S : Scope) (P : Program) (Q : Frame → World → Prop) : Frame → List Frame → World → Prop
  | stop (fr : Frame) (w : World) (T : Nat → Question → Nat) (d : Nat) : Q fr (tp w T d) → Cells S.N w → FrOk S P fr → Tree S P Q fr [] w
  | step (fr : Frame) (up : List Frame) (w : World) (f : Nat → Frame) (u : Nat → List Frame) (v : Nat → World) (es : Nat → Array Event) (m : Nat → Nat) :
      (∀ d cs, stepG P true (gS cs fr up) (tp w w.tape d) = .go (gS cs (f d) (u d)) (v d) (es d)) → (∀ d, Good S (tp w w.tape d) (v d) (es d) (m d)) → (∀ d, Tree S P Q (f d) (u d) (v d)) → Tree S P Q fr up w

/-- Beneath the frames: a frame that neither a result nor a panic brings on. -/
def pc : Frame := { fn := 0, tmps := #[], todo := [.code (.refuse "")], defers := [{ target := .nil, args := #[] }], mode := .run, kind := .normal }

theorem step_solo_ended {a : Goroutine} {o : Outcome} {w w' : World} {es : Array Event} (hs : a = G a.frame a.callers) (h : stepG P true a w = .ended o w' es) : step P (solo a w) = .ended o w' := by
  rw [hs] at h ⊢
  exact step_lone_ended (fr := a.frame) (cs := a.callers) (by rw [show stepG P true { frame := a.frame, callers := a.callers, status := .running, dying := none } w = _ from h]; rfl)
theorem runN_ended {m : Machine} {o : Outcome} {w' : World} (h : step P m = .ended o w') (n : Nat) (m' : Machine) : runN P (n + 1) m ≠ .next m' := by
  simp [runN, h]
end

structure St where
  fr : Frame
  up : List Frame
  w : World

section
variable {S : Scope} {P : Program} {Q : Frame → World → Prop}

structure Sim (S : Scope) (P : Program) (s s' : St) (d m : Nat) (es : Array Event) : Prop where
  ok : OkSt S P s'.fr s'.up
  good : Good S (tp s.w s.w.tape d) s'.w es m
  go : ∀ cs T d', Agr (tp s.w s.w.tape d) m T d' → stepG P true (gS cs s.fr s.up) (tp s.w T d') = .go (gS cs s'.fr s'.up) (tp s'.w T (d' + m)) es
structure Bad (S : Scope) (P : Program) (Q : Frame → World → Prop) (s : St) : Prop where
  ok : OkSt S P s.fr s.up
  heap : Cells S.N s.w
  bad : ¬ Tree S P Q s.fr s.up s.w
def Dead (P : Program) (s : St) (d m : Nat) : Prop := ∀ cs T d', Agr (tp s.w s.w.tape d) m T d' → Ended (stepG P true (gS cs s.fr s.up) (tp s.w T d'))
def Rel (S : Scope) (P : Program) (Q : Frame → World → Prop) (s : St) (x : St × Nat × Nat) : Prop :=
  (Bad S P Q x.1 ∧ ∃ es, Sim S P s x.1 x.2.1 x.2.2 es) ∨ (x.1 = s ∧ Dead P s x.2.1 x.2.2)

theorem Sim.self {s s' : St} {d m : Nat} {es : Array Event} (h : Sim S P s s' d m es) (cs : List Frame) : stepG P true (gS cs s.fr s.up) (tp s.w s.w.tape d) = .go (gS cs s'.fr s'.up) s'.w es := by
  have := h.go cs s.w.tape d fun i hi => rfl
  have e : tp s'.w s.w.tape (d + m) = s'.w := by
    have h1 : s.w.tape = s'.w.tape := h.good.kept.tape.symm
    have h2 : d + m = s'.w.drawn := h.good.kept.drawn.symm
    rw [h1, h2]; rfl
  rwa [e] at this

theorem bad_next (hS : ScopeOk S P) {s : St} (h : Bad S P Q s) (hn : ¬ Stopped s.fr s.up) : ∃ x, Rel S P Q s x := by
  apply Classical.byContradiction
  intro hno
  apply h.bad
  have key : ∀ d, ∃ x : St × Array Event × Nat, Sim S P s x.1 d x.2.2 x.2.1 ∧ Tree S P Q x.1.fr x.1.up x.1.w := by
    intro d
    rcases step_st (w := tp s.w s.w.tape d) hS h.ok h.heap hn with ⟨fr', up', w', es, m, h1, h2, h3⟩ | ⟨m, h1⟩
    · have hs : Sim S P s ⟨fr', up', w'⟩ d m es := ⟨h1, h2, h3⟩
      by_cases ht : Tree S P Q fr' up' w'
      · exact ⟨(⟨fr', up', w'⟩, es, m), hs, ht⟩
      · exact absurd ⟨(⟨fr', up', w'⟩, d, m), .inl ⟨⟨h1, h2.heap, ht⟩, es, hs⟩⟩ hno
    · exact absurd ⟨(s, d, m), .inr ⟨rfl, h1⟩⟩ hno
  have ch := fun d => Classical.choose_spec (key d)
  exact .step s.fr s.up s.w (fun d => (Classical.choose (key d)).1.fr) (fun d => (Classical.choose (key d)).1.up) (fun d => (Classical.choose (key d)).1.w) (fun d => (Classical.choose (key d)).2.1) (fun d => (Classical.choose (key d)).2.2)
    (fun d cs => (ch d).1.self cs) (fun d => (ch d).1.good) fun d => (ch d).2

open Classical in
noncomputable def nxt (S : Scope) (P : Program) (Q : Frame → World → Prop) (s : St) : St × Nat × Nat := if h : ∃ x, Rel S P Q s x then Classical.choose h else (s, 0, 0)
noncomputable def sq (S : Scope) (P : Program) (Q : Frame → World → Prop) (s : St) : Nat → St
  | 0 => s
  | n + 1 => (nxt S P Q (sq S P Q s n)).1
noncomputable def oq (S : Scope) (P : Program) (Q : Frame → World → Prop) (s : St) : Nat → Nat
  | 0 => 0
  | n + 1 => oq S P Q s n + (nxt S P Q (sq S P Q s n)).2.2
noncomputable def tq (S : Scope) (P : Program) (Q : Frame → World → Prop) (s : St) (x : Nat) : Question → Nat :=
  let n := Classical.epsilon fun n => oq S P Q s n ≤ x ∧ x < oq S P Q s (n + 1)
  s.w.tape ((nxt S P Q (sq S P Q s n)).2.1 + (x - oq S P Q s n))

theorem oq_mono (s : St) : ∀ {a b : Nat}, a ≤ b → oq S P Q s a ≤ oq S P Q s b := by
  intro a b h
  induction h with
  | refl => exact Nat.le_refl _
  | step _ ih => exact Nat.le_trans ih (Nat.le_add_right _ _)
theorem tq_at (s : St) (n i : Nat) (hi : i < (nxt S P Q (sq S P Q s n)).2.2) : tq S P Q s (oq S P Q s n + i) = s.w.tape ((nxt S P Q (sq S P Q s n)).2.1 + i) := by
  have h0 : oq S P Q s n ≤ oq S P Q s n + i ∧ oq S P Q s n + i < oq S P Q s (n + 1) := ⟨Nat.le_add_right _ _, Nat.add_lt_add_left hi _⟩
  have h1 := Classical.epsilon_spec (p := fun k => oq S P Q s k ≤ oq S P Q s n + i ∧ oq S P Q s n + i < oq S P Q s (k + 1)) ⟨n, h0⟩
  obtain ⟨k, hk⟩ : ∃ k, k = Classical.epsilon fun k => oq S P Q s k ≤ oq S P Q s n + i ∧ oq S P Q s n + i < oq S P Q s (k + 1) := ⟨_, rfl⟩
  rw [← hk] at h1
  have e : k = n := by
    rcases Nat.lt_trichotomy k n with h | h | h
    · have := oq_mono (S := S) (P := P) (Q := Q) s (show k + 1 ≤ n from h); omega
    · exact h
    · have := oq_mono (S := S) (P := P) (Q := Q) s (show n + 1 ≤ k from h); omega
  unfold tq
  simp only
  rw [← hk, e, Nat.add_sub_cancel_left]

theorem nxt_spec {s : St} (h : ∃ x, Rel S P Q s x) : Rel S P Q s (nxt S P Q s) := by
  unfold nxt
  rw [dif_pos h]
  exact Classical.choose_spec h
theorem nxt_tape (s : St) : (nxt S P Q s).1.w.tape = s.w.tape := by
  by_cases h : ∃ x, Rel S P Q s x
  · rcases nxt_spec h with ⟨_, es, hs⟩ | ⟨h1, _⟩
    · exact hs.good.kept.tape
    · rw [h1]
  · unfold nxt; rw [dif_neg h]
theorem sq_tape (s : St) : ∀ n, (sq S P Q s n).w.tape = s.w.tape
  | 0 => rfl
  | n + 1 => (nxt_tape _).trans (sq_tape s n)

theorem solo_inj {a b : Goroutine} {w w' : World} (h : solo a w = solo b w') : a = b ∧ w = w' := by
  simp only [solo, Machine.mk.injEq, Array.mk.injEq, List.cons.injEq, and_true] at h
  exact ⟨h.2, h.1⟩

/-- Behind the bottom frame's leaving the run alone ends at once. -/
theorem stopped_leave {fr : Frame} (hst : fr.mode ≠ .run) (hd : fr.defers = []) (hr : fr.roundOf = none) (w : World) :
    (∃ o w', step P (solo (G fr [pc]) w) = .ended o w') ∨ ∃ g w', step P (solo (G fr [pc]) w) = .next (solo g w') ∧ g.callers = [] ∧ ∃ o w'', step P (solo g w') = .ended o w'' := by
  obtain ⟨fn, tmps, todo, defers, mode, kind, round⟩ := fr
  simp only at hst hd hr
  subst hd hr
  have E : ∀ {a : Goroutine} {w : World}, a = G a.frame a.callers → Ended (stepG P true a w) → ∃ o w', step P (solo a w) = .ended o w' := fun ha ⟨o, w', es, h⟩ => ⟨o, w', step_solo_ended ha h⟩
  cases mode with
  | run =>
    exact absurd rfl hst
  | returning =>
    have key : ∀ (v : Value) (w' : World) (es : Array Event), stepG P true (G (⟨fn, tmps, todo, [], .returning, kind, none⟩ : Frame) [pc]) w = GStep.after es (doReturn P true (⟨fn, tmps, todo, [], .returning, kind, none⟩ : Frame) [pc] none v w') →
        (∃ o w', step P (solo (G (⟨fn, tmps, todo, [], .returning, kind, none⟩ : Frame) [pc]) w) = .ended o w') ∨ ∃ g w', step P (solo (G (⟨fn, tmps, todo, [], .returning, kind, none⟩ : Frame) [pc]) w) = .next (solo g w') ∧ g.callers = [] ∧ ∃ o w'', step P (solo g w') = .ended o w'' := by
      intro v w' es h
      refine .inr ⟨G pc [], w', ?_, rfl, E rfl ⟨_, _, _, rfl⟩⟩
      have : stepG P true (G (⟨fn, tmps, todo, [], .returning, kind, none⟩ : Frame) [pc]) w = .go (G pc []) w' (es ++ #[]) := by
        rw [h]
        cases kind <;> rfl
      exact step_solo_go rfl this
    cases hf : P.funcs[fn]? with
    | none => exact key (tmps.getD 0 undef) w #[] (by simp [G, stepG, unwind, hf, GStep.after, doReturn, pc]; cases kind <;> rfl)
    | some f =>
      cases hr : (results f tmps).runT P w #[] with
      | mk res es =>
        cases res with
        | ok v w' => exact key v w' (seen P fn es) (by simp only [G, stepG, unwind, hf, hr])
        | halt hh w' =>
          refine .inl (E rfl ?_)
          simp only [G, stepG, unwind, hf, hr]
          cases hh <;> exact ⟨_, _, _, rfl⟩
  | panicking chain =>
    by_cases hc : (⟨fn, tmps, todo, [], .panicking chain, kind, none⟩ : Frame).catches P = true
    · refine .inl (E rfl ?_)
      simp only [G, stepG, unwind] at hc ⊢
      simp only [hc, if_true]
      exact ⟨_, _, _, rfl⟩
    · refine .inr ⟨G (pc.raise chain) [], w, ?_, rfl, E rfl ⟨_, _, _, rfl⟩⟩
      refine step_solo_go (es := #[]) rfl ?_
      simp only [G, stepG, unwind] at hc ⊢
      simp only [hc]
      rfl

/-- What a call alone comes to, on every tape. -/
def LoneC (P : Program) (Q : Frame → World → Prop) (fr : Frame) (w : World) : Prop :=
  ∀ T d, ∃ fr' w', Steps P (solo (G fr [pc]) (tp w T d)) (solo (G fr' [pc]) w') ∧ Q fr' w'

set_option maxHeartbeats 800000 in
/-- ████ FROM A CALL ALONE TO THE TREE: the callee's own frame, nothing beneath it but poison. ████ -/
theorem tree_of_call (hS : ScopeOk S P) {fr : Frame} {w : World} (hf : FrOk S P fr) (hw : Cells S.N w) (hL : LoneC P Q fr w) : Tree S P Q fr [] w := by
  apply Classical.byContradiction
  intro hT
  obtain ⟨s, hs⟩ : ∃ s : St, s = ⟨fr, [], w⟩ := ⟨_, rfl⟩
  have hb : Bad S P Q s := hs ▸ ⟨hf, hw, hT⟩
  obtain ⟨fr', w', ⟨N, hN⟩, hq⟩ := hL (tq S P Q s) 0
  have claim : ∀ n, n ≤ N → Bad S P Q (sq S P Q s n) ∧ runN P n (solo (G fr [pc]) (tp w (tq S P Q s) 0)) = .next (solo (gS [pc] (sq S P Q s n).fr (sq S P Q s n).up) (tp (sq S P Q s n).w (tq S P Q s) (oq S P Q s n))) := by
    intro n
    induction n with
    | zero => exact fun _ => ⟨hb, by rw [hs]; rfl⟩
    | succ n ih =>
      intro hn
      obtain ⟨hbad, hrun⟩ := ih (by omega)
      obtain ⟨k, hk⟩ : ∃ k, N = n + (k + 1) := ⟨N - n - 1, by omega⟩
      have hrest : runN P (k + 1) (solo (gS [pc] (sq S P Q s n).fr (sq S P Q s n).up) (tp (sq S P Q s n).w (tq S P Q s) (oq S P Q s n))) = .next (solo (G fr' [pc]) w') := by
        rw [hk, runN_add, hrun] at hN
        exact hN
      by_cases hst : Stopped (sq S P Q s n).fr (sq S P Q s n).up
      · exfalso
        obtain ⟨hup, hmode⟩ := hst
        have hok := hbad.ok
        rw [hup] at hrest hok
        rcases stopped_leave (P := P) hmode hok.defers hok.round (tp (sq S P Q s n).w (tq S P Q s) (oq S P Q s n)) with ⟨o, w1, h1⟩ | ⟨g, w1, h1, h2, o, w2, h3⟩
        · exact runN_ended h1 k _ hrest
        · cases k with
          | zero =>
            have : runN P 1 (solo (gS [pc] (sq S P Q s n).fr []) (tp (sq S P Q s n).w (tq S P Q s) (oq S P Q s n))) = .next (solo g w1) := by simp only [runN, gS, List.nil_append, h1]
            rw [this] at hrest
            simp only [Stepped.next.injEq] at hrest
            have := (solo_inj hrest).1
            rw [this] at h2
            cases h2
          | succ k =>
            have : runN P (k + 1 + 1) (solo (gS [pc] (sq S P Q s n).fr []) (tp (sq S P Q s n).w (tq S P Q s) (oq S P Q s n))) = runN P (k + 1) (solo g w1) := by
              rw [runN]; simp only [gS, List.nil_append, h1]
            rw [this] at hrest
            exact runN_ended h3 k _ hrest
      · have hr := nxt_spec (bad_next hS hbad hst)
        have hagr : Agr (tp (sq S P Q s n).w (sq S P Q s n).w.tape (nxt S P Q (sq S P Q s n)).2.1) (nxt S P Q (sq S P Q s n)).2.2 (tq S P Q s) (oq S P Q s n) := fun i hi => by
          rw [tq_at s n i hi]
          show _ = (sq S P Q s n).w.tape _
          rw [sq_tape]
          rfl
        rcases hr with ⟨hb', es, hsim⟩ | ⟨_, hdead⟩
        · refine ⟨hb', ?_⟩
          have hgo := hsim.go [pc] _ _ hagr
          have h1 := step_solo_go rfl hgo
          rw [runN_add, hrun]
          simp only [runN, h1]
          rfl
        · exfalso
          obtain ⟨o, w1, es, he⟩ := hdead [pc] _ _ hagr
          exact runN_ended (step_solo_ended rfl he) k _ hrest
  obtain ⟨hbad, hrun⟩ := claim N (Nat.le_refl _)
  rw [hN] at hrun
  simp only [Stepped.next.injEq] at hrun
  obtain ⟨h1, h2⟩ := solo_inj hrun
  have hup : (sq S P Q s N).up = [] := by
    have h3 : [pc] = (sq S P Q s N).up ++ [pc] := congrArg Goroutine.callers h1
    have := congrArg List.length h3
    simp at this
    exact this
  have hfr : fr' = (sq S P Q s N).fr := congrArg Goroutine.frame h1
  apply hbad.bad
  have hok := hbad.ok
  rw [hup] at hok ⊢
  exact .stop _ _ _ _ (by rw [← hfr, ← h2]; exact hq) hbad.heap hok
end

end Go.Proofs.YtiodikflmijhkaaGreatDoor.Nmo
