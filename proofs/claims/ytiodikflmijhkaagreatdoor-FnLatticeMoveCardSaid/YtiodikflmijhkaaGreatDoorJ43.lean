/- Joined texts: N5. -/
import Derived.Test.YtiodikflmijhkaaGreatDoorJ42
set_option linter.unusedSectionVars false
set_option linter.unusedVariables false
set_option linter.unusedSimpArgs false
namespace Go.Proofs.YtiodikflmijhkaaGreatDoor.Nmo
open Go Go.Conc

def plainB (P : Program) (t : TypeId) : Bool := match P.underlying t with
  | some (.int _) | some .bool | some .string => true
  | _ => false
def intB (P : Program) (t : TypeId) : Bool := match P.underlying t with
  | some (.int _) => true
  | _ => false
def callB (fB : FuncId → Bool) (c : Call) : Bool := match c.callee with
  | .value (.func f) => fB f
  | .builtin .len | .builtin .copy | .builtin .append => true
  | _ => false
def opB (P : Program) (fB : FuncId → Bool) (o : Op) : Bool := match o with
  | .move _ | .assign _ | .box _ _ | .load _ _ | .unOp _ _ _ | .fieldAddr _ _ _ | .field _ _ _ | .extract _ _ | .pick _ _ _ | .alloc _ | .build _ _ | .buildSlice _ _ _ | .store _ _ _ | .indexAddr _ _ _ | .index _ _ _ | .makeSlice _ _ _ | .slice _ _ _ _ _ => true
  | .nilCheck x => true
  | .binOp op t _ _ _ => (match op with | .eql | .neq => plainB P t | _ => true)
  | .convert s d _ => intB P s && intB P d
  | .call c => callB fB c
  | _ => false
def codeB (P : Program) (fB : FuncId → Bool) : Code → Bool
  | .skip | .ret | .label _ | .exit _ | .refuse _ => true
  | .region _ ops _ => ops.all fun o => opB P fB o.op
  | .seq a b | .cond _ a b => codeB P fB a && codeB P fB b
  | .block _ b | .loop b => codeB P fB b
  | _ => false
def funcB (P : Program) (fB : FuncId → Bool) (f : FuncId) : Bool := match P.funcs[f]? with
  | some fn => fn.name != "runtime.NumGoroutine" && (match fn.body with | some c => codeB P fB c | none => false)
  | none => false

section
variable {S : Scope} {P : Program} {fB : FuncId → Bool}
structure Fits (S : Scope) (P : Program) (fB : FuncId → Bool) : Prop where
  func : ∀ f, fB f = true → S.F f
  known : ∀ f, S.F f → funcB P fB f = true
  early : ∀ fr cs g w, S.N ≤ g → ∃ o w' es, Go.early P fr cs none g w = .ended o w' es
theorem plain_of {t : TypeId} (h : plainB P t = true) : Plain P t := by
  unfold plainB at h
  unfold Plain
  split at h
  · rename_i k e; exact .inl ⟨k, e⟩
  · rename_i e; exact .inr (.inl e)
  · rename_i e; exact .inr (.inr (.inl e))
  · cases h
theorem int_of {t : TypeId} (h : intB P t = true) : ∃ k, P.underlying t = some (.int k) := by
  unfold intB at h
  split at h
  · rename_i k e; exact ⟨k, e⟩
  · cases h
theorem cl_v {s : Sem Value} (h : Cl P s (Ok S)) : Cl P (do pure (.value (← s)) : Sem Next) (NextOk S) := h.bind fun v hv => trivial
theorem cl_u {s : Sem Unit} (h : Cl P s fun _ => True) : Cl P (do s; pure .skip : Sem Next) (NextOk S) := h.bind fun _ _ => trivial
theorem zeroOk {t : TypeId} : ZeroOk S P t := fun _ _ _ _ => trivial
theorem cl_callFunc (hF : Fits S P fB) {f : FuncId} {args : Array Value} (hf : S.F f) : Cl P (callFunc f args) (NextOk S) := by
  have hk := hF.known f hf
  unfold funcB at hk
  unfold callFunc
  refine cl_program ?_
  cases hfn : P.funcs[f]? with
  | none => rw [hfn] at hk; cases hk
  | some fn =>
    rw [hfn] at hk
    simp only [Bool.and_eq_true, bne_iff_ne, ne_eq] at hk
    cases hb : fn.body with
    | none => rw [hb] at hk; exact absurd hk.2 (by simp)
    | some c =>
      refine cl_ite (fun h => absurd (by simpa using h) hk.1) fun _ => ?_
      rw [hb]
      exact hf

theorem zeroCells_ok {z : Array Value} (hz : ∀ v ∈ z, Ok S v) (n : Nat) : ∀ v ∈ Builtin.zeroCells z n, Ok S v := zeros_ok hz _
theorem cl_holdsCells {a : Addr} {n : Nat} : Cl P (Builtin.holdsCells a n) (fun _ => True) := by
  unfold Builtin.holdsCells
  refine cl_shape fun s => ?_
  split <;> trivial
theorem cl_errorB {α β : Type} {e : String} {f : α → Sem β} {Φ : β → Prop} : Cl P (runtimePanic (.error e) >>= f) Φ := trivial
theorem cl_limitB {α β : Type} {e : String} {f : α → Sem β} {Φ : β → Prop} : Cl P (unsupported (.resourceLimit e) >>= f) Φ := fun _ e => by cases e
theorem cl_markB {β : Type} {f : Unit → Sem β} {Φ : β → Prop} (h : Cl P (f ()) Φ) : Cl P (mark .noRoom >>= f) Φ := ⟨rfl, h⟩
theorem cl_mayShare {a b c : Nat} {x : Value} {base : Option Addr} : Cl P (Builtin.mayShare a b c base x) (fun _ => True) := by
  unfold Builtin.mayShare
  dsimp only
  repeat' first
    | with_reducible exact cl_pure True.intro
    | (with_reducible refine cl_pureB ?_)
    | (with_reducible refine Cl.bind (cl_holdsCells (P := P)) fun _ _ => ?_)
    | (with_reducible refine cl_frozen fun _ => ?_)
    | (with_reducible refine cl_ite (fun _ => ?_) fun _ => ?_)
    | split
set_option maxHeartbeats 8000000 in
theorem cl_append {ts : Array TypeId} {t : TypeId} {args : Array Value} (hx : ∀ v ∈ args, Ok S v) : Cl P (Builtin.append_ ts t args) (Ok S) := by
  unfold Builtin.append_
  split
  · rename_i _ sType s x h1
    have h0 : ts[0]? = some sType := (Prod.mk.inj h1).1
    have h2 : args[0]? = some s := (Prod.mk.inj (Prod.mk.inj h1).2).1
    have h3 : args[1]? = some x := (Prod.mk.inj (Prod.mk.inj h1).2).2
    have hs : Ok S s := hx s (Array.mem_of_getElem? h2)
    have hxx : Ok S x := hx x (Array.mem_of_getElem? h3)
    refine (cl_underlying sType).bind fun d hd => ?_
    split
    · rename_i elem
      have hze : ZeroOk S P elem := fun _ _ _ _ => trivial
      split
      · rename_i base sLen sCap
        refine (cl_sizeOf elem).bind fun size _ => ?_
        have hap : ∀ (zeros : Bool) (n : Nat), Cl P (if (!zeros) = true then Builtin.firstCells size n x else if n * size = 0 then pure #[] else (zeroValue elem >>= fun z => pure (Builtin.zeroCells z.cells n))) (fun cs => ∀ v ∈ cs, Ok S v) := fun zeros n =>
          cl_ite (fun _ => cl_firstCells hxx) fun _ => cl_ite (fun _ => cl_pure (by simp)) fun _ => (cl_zero hze).bind fun z hzz => cl_pure (zeroCells_ok (ok_cells hzz) n)
        have hs' : ∀ l c, Ok S (.slice base l c) := fun l c => by
          cases base with
          | none => exact ok_nilslice
          | some a => exact ok_slice.2 (ok_slice.1 hs)
        have h3 : ∀ {a b c : Array Value}, (∀ v ∈ a, Ok S v) → (∀ v ∈ b, Ok S v) → (∀ v ∈ c, Ok S v) → ∀ v ∈ a ++ b ++ c, Ok S v := fun ha hb hc v hv => (Array.mem_append.1 hv).elim (fun h => (Array.mem_append.1 h).elim (ha v) (hb v)) (hc v)
        dsimp only
        repeat' first
          | with_reducible exact cl_errorB
          | with_reducible exact cl_limitB
          | with_reducible exact cl_limit
          | with_reducible exact cl_error
          | (with_reducible refine cl_pureB ?_)
          | (with_reducible refine cl_markB ?_)
          | (with_reducible refine (cl_typeInfo _).bind fun _ _ => ?_)
          | (with_reducible refine (cl_underlying _).bind fun _ _ => ?_)
          | (with_reducible refine (cl_asInt _).bind fun _ _ => ?_)
          | (with_reducible refine (cl_lenOf _).bind fun _ _ => ?_)
          | (with_reducible refine cl_choose fun _ => ?_)
          | (with_reducible refine cl_seq cl_askRoom ?_)
          | (with_reducible refine Cl.bind (hap _ _) fun new hnew => ?_)
          | (with_reducible refine (cl_firstCells hs).bind fun old hold => ?_)
          | (with_reducible refine (cl_zero hze).bind fun z hzz => ?_)
          | (with_reducible refine (cl_newRow (h3 hold hnew (zeroCells_ok (ok_cells hzz) _))).bind fun r hr => cl_pure (ok_slice.2 hr))
          | (with_reducible refine Cl.bind (cl_mayShare (P := P)) fun _ _ => ?_)
          | (with_reducible refine cl_seq (cl_storeCells (by rw [add_block]; exact ok_slice.1 hs) _ 0 fun v hv => hnew v (Array.mem_toList_iff.1 hv)) ?_)
          | with_reducible exact cl_pure (hs' _ _)
          | (with_reducible refine cl_ite (fun _ => ?_) fun _ => ?_)
          | (with_reducible refine Cl.bind (Φ := fun _ => True) (cl_ite (fun _ => ?_) fun _ => ?_) fun _ _ => ?_)
          | (with_reducible refine Cl.bind (Φ := fun _ => True) (Cl.bind (cl_mayShare (P := P)) fun _ _ => ?_) fun _ _ => ?_)
          | with_reducible exact cl_pure True.intro
          | split
      · exact cl_stuck
    · exact cl_stuck
  · exact cl_stuck


theorem cl_followBlind : ∀ (path : List FieldStep) (t : TypeId) (x : Option Value), Cl P (Go.followBlind path t x) (fun _ => True)
  | [], _, _ => trivial
  | s :: rest, t, x => by
    unfold Go.followBlind
    refine (cl_underlying _).bind fun d _ => ?_
    split
    · split
      · rename_i f _
        split
        · trivial
        · exact cl_followBlind rest _ _
        · trivial
        · trivial
        · exact (cl_part (S := ⟨fun _ => True, 0⟩) fun _ _ => trivial).bind fun v _ => cl_followBlind rest _ _
        · trivial
        · exact cl_followBlind rest _ _
      · trivial
    · trivial
theorem cl_nilAhead : ∀ (n : Nat) (t : TypeId) (v : Value) (name : String), Cl P (Go.nilAhead n t v name) (fun _ => True)
  | 0, _, _, _ => trivial
  | n + 1, t, v, name => by
    unfold Go.nilAhead
    refine (cl_typeInfo t).bind fun i _ => ?_
    split
    · rename_i m _
      refine (cl_followBlind _ _ _).bind fun r _ => ?_
      split
      · trivial
      · split
        · exact cl_nilAhead n _ _ _
        · trivial
        · trivial
        · trivial
        · trivial
        · refine (cl_underlying _).bind fun d _ => ?_
          split <;> trivial
    · trivial
theorem op_ok (hF : Fits S P fB) {o : Oper} (h : opB P fB o.op = true) : OpOk S P o := by
  refine ⟨fun c e => (by rw [e] at h; cases h), ?_⟩
  intro fr
  obtain ⟨dst, op, ty, pos, after, guard⟩ := o
  simp only at h
  have ev : ∀ (v : Value), Ok S v := fun _ => trivial
  have evs : ∀ (xs : Array Value), ∀ v ∈ xs, Ok S v := fun _ _ _ => trivial
  cases op with
  | move x => exact trivial
  | assign x => exact trivial
  | pick c a b => exact (cl_asBool _).bind fun t _ => cl_pure trivial
  | alloc t => exact cl_v ((cl_zero zeroOk).bind fun z hz => (cl_newVar hz).bind fun a ha => ok_pointer.2 ha)
  | box t x => exact cl_v ((cl_newVar (ev _)).bind fun a ha => ok_pointer.2 ha)
  | build t ps => exact cl_v (cl_build zeroOk fun p hp => trivial)
  | buildSlice t n ps => exact cl_v (cl_buildSlice (fun e he => zeroOk) fun p hp => trivial)
  | load t a => exact cl_v ((cl_sureAddr (ev _)).bind fun x hx => cl_loadVar hx)
  | store t a v => exact cl_u ((cl_sureAddr (ev _)).bind fun x hx => cl_storeVar hx (ev _))
  | nilCheck x =>
    unfold execOp
    dsimp only
    generalize fr.eval x = v
    split
    · exact cl_nilDeref
    · exact cl_nilDeref
    · exact cl_nilDeref
    · split
      · exact cl_nilDeref
      · refine cl_program ((cl_nilAhead _ _ _ _).bind fun r _ => ?_)
        exact cl_ite (fun _ => cl_noEntry) fun _ => trivial
      · exact trivial
    · exact trivial
  | binOp op t a b t' =>
    have hp : (op = .eql ∨ op = .neq) → Plain P t := fun e => by rcases e with rfl | rfl <;> exact plain_of h
    exact cl_v (cl_seq (cl_eqGuard hp) (cl_binOp hp (ev _) (ev _)))
  | unOp op t x => exact cl_v (cl_unary (ev _))
  | convert s d x =>
    simp only [opB, Bool.and_eq_true] at h
    exact cl_v (cl_convert (int_of h.1) (int_of h.2) (ev _))
  | makeSlice t a b => exact cl_v (cl_makeSlice fun e he => zeroOk)
  | slice t x lo hi mx => exact cl_v (cl_sliceAt (ev _))
  | fieldAddr t x f => exact cl_v (cl_fieldAt (ev _))
  | field t x f => exact cl_v (cl_field (ev _))
  | indexAddr t a b => exact cl_v (cl_indexAt (ev _))
  | index t a b => exact cl_v (cl_index (ev _))
  | extract x i => exact cl_v (cl_extract (ev _))
  | call c =>
    obtain ⟨callee, args, argTypes⟩ := c
    simp only [opB, callB] at h
    cases callee with
    | value f =>
      cases f with
      | func f => exact cl_callFunc hF (hF.func f h)
      | _ => cases h
    | builtin b =>
      cases b with
      | len => exact cl_v (cl_len (evs _))
      | copy => exact cl_v (cl_copy (evs _))
      | append => exact cl_v (cl_append (evs _))
      | _ => cases h
    | invoke r m => cases h
  | _ => cases h

theorem code_ok (hF : Fits S P fB) : ∀ {c : Code}, codeB P fB c = true → CodeOk S P c
  | .skip, _ | .ret, _ | .label _, _ | .exit _, _ | .refuse _, _ => trivial
  | .region _ ops _, h => fun o ho => op_ok hF (Array.all_eq_true_iff_forall_mem.1 h o ho)
  | .seq a b, h => by
    simp only [codeB, Bool.and_eq_true] at h
    exact ⟨code_ok hF h.1, code_ok hF h.2⟩
  | .cond _ a b, h => by
    simp only [codeB, Bool.and_eq_true] at h
    exact ⟨code_ok hF h.1, code_ok hF h.2⟩
  | .block _ b, h => code_ok (c := b) hF h
  | .loop b, h => code_ok (c := b) hF h
  | .rangeFunc _ _ _ _, h => by cases h
  | .scope _, h => by cases h
  | .goto _, h => by cases h

theorem cl_results {fn : Func} {tmps : Array Value} (h : TmpsOk S tmps) : Cl P (results fn tmps) (Ok S) := by
  unfold results
  have get : ∀ t : Tmp, Ok S (tmps.getD t undef) := fun t => by
    rw [Array.getD_eq_getD_getElem?]
    cases ht : tmps[t]? with
    | none => exact ok_undef
    | some v => exact h v (Array.mem_of_getElem? ht)
  have one : ∀ r : ResultVar, Cl P (match r with | .tmp t => pure (tmps.getD t undef) | .cell a t => do loadVar t (← asAddr (tmps.getD a undef)) : Sem Value) (Ok S) := fun r => by
    cases r with
    | tmp t => exact get t
    | cell a t => exact (cl_asAddr (get a)).bind fun x hx => cl_loadVar hx
  rw [Array.mapM_eq_foldlM, ← Array.foldlM_toList]
  have key : ∀ (l : List ResultVar) (bs : Array Value), (∀ v ∈ bs, Ok S v) → Cl P (l.foldlM (fun bs a => bs.push <$> (match a with | .tmp t => pure (tmps.getD t undef) | .cell a t => do loadVar t (← asAddr (tmps.getD a undef)) : Sem Value)) bs) (fun vs => ∀ v ∈ vs, Ok S v) := by
    intro l
    induction l with
    | nil => exact fun bs hb => hb
    | cons x l ih =>
      intro bs hb
      rw [List.foldlM_cons, map_eq_pure_bind]
      refine Cl.bind ((one x).bind (Ψ := fun bs : Array Value => ∀ v ∈ bs, Ok S v) fun b hb' => ?_) fun bs' hbs => ih bs' hbs
      intro v hv
      rcases Array.mem_push.1 hv with h1 | rfl
      · exact hb v h1
      · exact hb'
  refine (key _ #[] (by simp)).bind fun vs hvs => cl_pure ?_
  split
  · exact hvs _ (Array.getElem_mem _)
  · exact ok_tuple.2 hvs


theorem scope_ok (hF : Fits S P fB) : ScopeOk S P := by
  refine ⟨fun f hf => ?_, fun f fn hf _ tmps => (cl_results (S := S) fun _ _ => trivial).mono fun _ _ => trivial, hF.early⟩
  have hk := hF.known f hf
  unfold funcB at hk
  cases hfn : P.funcs[f]? with
  | none => rw [hfn] at hk; cases hk
  | some fn =>
    rw [hfn] at hk
    simp only [Bool.and_eq_true, bne_iff_ne, ne_eq] at hk
    cases hb : fn.body with
    | none => rw [hb] at hk; exact absurd hk.2 (by simp)
    | some c => rw [hb] at hk; exact ⟨fn, c, rfl, hb, code_ok hF hk.2⟩
end

end Go.Proofs.YtiodikflmijhkaaGreatDoor.Nmo
