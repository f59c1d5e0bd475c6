/- Joined texts: V9 V10. -/
import Derived.Test.YtiodikflmijhkaaGreatDoorJ37
import Derived.Test.YtiodikflmijhkaaGreatDoorJ36
section
set_option linter.unusedSectionVars false
set_option linter.unusedVariables false
namespace Go.Proofs.YtiodikflmijhkaaGreatDoor.Vow
open Go Go.Conc

section
variable {S : Scope} {P : Program}

theorem cl_buildSlice {t : TypeId} {n : Nat} {parts : Array (Nat × Value)} (hz : ∀ e, P.underlying t = some (.slice e) → ZeroOk S P e) (hp : ∀ p ∈ parts, Ok S p.2) : Cl S P (Instr.buildSlice t n parts) (Ok S) := by
  unfold Instr.buildSlice
  refine (cl_underlying t).bind fun d hd => ?_
  have hp' : ∀ p ∈ parts.toList, Ok S p.2 := fun p h => hp p (Array.mem_toList_iff.1 h)
  split
  · rename_i e
    refine (cl_sizeOf e).bind fun size _ => ?_
    have fin : ∀ z : Array Value, (∀ v ∈ z, Ok S v) → Cl S P (match Instr.fill (fun i => some (i * size, size)) ((Array.range (n * size)).map (z[· % z.size]!)) parts.toList with
        | some cells => (do pure (.slice (some (← newRow e cells)) n n) : Sem Value) | _ => stuck "buildSlice: a part of the wrong size") (Ok S) := fun z hz => by
      split
      · rename_i cs h; exact (cl_newRow (fill_ok _ _ _ (zeros_ok hz _) hp' h)).bind fun r hr => ok_slice.2 hr
      · exact cl_stuck
    have key : Cl S P (do
        let zero ← if n * size = 0 then pure #[] else do pure (← zeroValue e).cells
        let some cells := Instr.fill (fun i => some (i * size, size)) ((Array.range (n * size)).map (zero[· % zero.size]!)) parts.toList
          | stuck "buildSlice: a part of the wrong size"
        pure (.slice (some (← newRow e cells)) n n) : Sem Value) (Ok S) := by
      refine cl_ite (fun _ => fin #[] (by simp)) fun _ => ?_
      exact (cl_zero (hz e hd)).bind fun z hz => fin _ (ok_cells hz)
    exact cl_ite (fun _ => cl_seq cl_limit key) fun _ => key
  · exact cl_stuck

theorem cl_sliceBound {x : Value} {y : Nat} {c : BoundsCode} : Cl S P (Instr.sliceBound x y c) (fun _ => True) :=
  (cl_asIntOf x).bind fun p _ => cl_ite (fun _ => trivial) fun _ => cl_bounds
theorem cl_sliceBounds {b : Bool} {l c : Nat} {lo hi mx : Option Value} : Cl S P (Instr.sliceBounds b l c lo hi mx) (fun _ => True) := by
  unfold Instr.sliceBounds
  have h3 : ∀ (m h : Nat), Cl S P (do
      let l ← match lo with | some v => Instr.sliceBound v h (if mx.isSome then .slice3C else .sliceB) | none => pure 0
      pure (l, h, m) : Sem (Nat × Nat × Nat)) (fun _ => True) := fun m h => by
    cases lo with
    | none => exact trivial
    | some v => exact cl_sliceBound.bind fun _ _ => trivial
  have h2 : ∀ m : Nat, Cl S P (do
      let h ← match hi, mx with
        | some v, some _ => Instr.sliceBound v m .slice3B
        | some v, none => Instr.sliceBound v m (if b then .sliceAcap else .sliceAlen)
        | none, none => pure l
        | none, some _ => stuck "Slice: max without high"
      let l ← match lo with | some v => Instr.sliceBound v h (if mx.isSome then .slice3C else .sliceB) | none => pure 0
      pure (l, h, m) : Sem (Nat × Nat × Nat)) (fun _ => True) := fun m => by
    cases hi with
    | none => cases mx with
      | none => exact h3 m l
      | some x => exact cl_stuck
    | some v => cases mx with
      | none => exact cl_sliceBound.bind fun h _ => h3 m h
      | some x => exact cl_sliceBound.bind fun h _ => h3 m h
  cases mx with
  | none => exact h2 c
  | some x => exact cl_sliceBound.bind fun m _ => h2 m

theorem ok_addS {a : Addr} {l c m : Nat} {q : Prop} [Decidable q] (h : ¬ S.D a.block) : Ok S (.slice (some (if q then a else a.add m)) l c) := ok_slice.2 (by split <;> first | exact h | (rw [add_block]; exact h))
theorem cl_slice {t : TypeId} {x : Value} {lo hi mx : Option Value} (hx : Ok S x) : Cl S P (Instr.slice t x lo hi mx) (Ok S) := by
  unfold Instr.slice
  refine (cl_underlying t).bind fun d _ => ?_
  split
  · rename_i str _
    have key : Cl S P (do
        let (l, h, _) ← Instr.sliceBounds false str.size str.size lo hi none
        pure (.string (str.extract l h)) : Sem Value) (Ok S) := cl_sliceBounds.bind fun _ _ => cl_pure (.string _)
    exact cl_ite (fun _ => cl_seq cl_stuck key) fun _ => key
  · rename_i e a l c _
    refine cl_sliceBounds.bind fun r _ => (cl_sizeOf e).bind fun n _ => ?_
    cases a with
    | none =>
      refine cl_pure ?_
      split <;> exact ok_nilslice
    | some a =>
      refine cl_pure ?_
      split
      · exact ok_slice.2 (ok_slice.1 hx)
      · exact ok_slice.2 (by rw [add_block]; exact ok_slice.1 hx)
  · rename_i arr _
    refine (cl_asAddr hx).bind fun a ha => (cl_underlying arr).bind fun d _ => ?_
    split
    · exact cl_sliceBounds.bind fun r _ => (cl_sizeOf _).bind fun n _ => cl_pure (ok_addS ha)
    · exact cl_stuck
  · exact cl_stuck
theorem cl_sliceAt {t : TypeId} {x : Value} {lo hi mx : Option Value} (hx : Ok S x) : Cl S P (Instr.sliceAt t x lo hi mx) (Ok S) := by
  unfold Instr.sliceAt
  refine (cl_underlying t).bind fun d _ => ?_
  split
  · exact (cl_sureAddr hx).bind fun a ha => cl_sliceBounds.bind fun r _ => (cl_sizeOf _).bind fun n _ => cl_pure (ok_addS ha)
  · exact cl_slice hx

theorem cl_indexAt {t : TypeId} {x i : Value} (hx : Ok S x) : Cl S P (Instr.indexAt t x i) (Ok S) := by
  unfold Instr.indexAt
  refine (cl_asIntOf i).bind fun p _ => (cl_underlying t).bind fun d _ => ?_
  have fin : ∀ (base : Option Addr) (len : Nat) (elem : TypeId), (∀ a, base = some a → ¬ S.D a.block) → Cl S P (do
      let tiny := len ≤ 1 && (match ← underlying t with | .array .. => true | _ => false)
      match base with
      | some a =>
        if 0 ≤ p.2 ∧ p.2 < len then pure (.pointer (some (a.add (p.2.toNat * (← sizeOf elem)))))
        else if tiny then unsupported (.noEntry "op/indexAddr.an index out of range at an array of length 0 or 1 (ledger 616)")
        else boundsPanic p.1 p.2 len .index
      | none => boundsPanic p.1 p.2 0 .index : Sem Value) (Ok S) := fun base len elem hb => by
    refine (cl_underlying t).bind fun d _ => ?_
    cases base with
    | none => exact cl_bounds
    | some a =>
      refine cl_ite (fun _ => (cl_sizeOf elem).bind fun n _ => cl_pure (ok_pointer.2 (by rw [add_block]; exact hb a rfl))) fun _ => ?_
      exact cl_ite (fun _ => cl_noEntry) fun _ => cl_bounds
  dsimp only
  split
  · exact (cl_sureAddr hx).bind fun a ha => fin (some a) _ _ fun _ e => by cases e; exact ha
  · rename_i elem base len c _
    exact fin base len elem fun a e => by subst e; exact ok_slice.1 hx
  · exact cl_stuck
theorem cl_index {t : TypeId} {x i : Value} (hx : Ok S x) : Cl S P (Instr.index t x i) (Ok S) := by
  unfold Instr.index
  refine (cl_asIntOf i).bind fun p _ => (cl_underlying t).bind fun d _ => ?_
  split
  · exact cl_ite (fun _ => (cl_sizeOf _).bind fun n _ => cl_part (ok_agg.1 hx)) fun _ => cl_bounds
  · split
    · exact cl_pure (.int _ _)
    · exact cl_bounds
  · exact cl_stuck
theorem cl_partAt {a : Addr} {c b : Nat} (h : ¬ S.D a.block) : Cl S P (partAt a c b) (fun x => ¬ S.D x.block) := by
  unfold partAt
  refine (cl_byteOf h).bind fun n _ => (cl_byteOf (a := { block := a.block, off := a.off + c }) h).bind fun m _ => cl_pure ?_
  split <;> exact h
theorem cl_fieldAt {t : TypeId} {x : Value} {f : Nat} (hx : Ok S x) : Cl S P (Instr.fieldAt t x f) (Ok S) := by
  unfold Instr.fieldAt
  refine (cl_underlying t).bind fun d _ => ?_
  split
  · split
    · rename_i fs _ fd _
      refine (cl_sureAddr hx).bind fun a ha => ?_
      have key : Cl S P (fieldPlace a fd) (fun x => ¬ S.D x.block) := by
        unfold fieldPlace
        exact (cl_sizeOf _).bind fun n _ => cl_ite (fun _ => cl_partAt ha) fun _ => cl_pure (by rw [add_block]; exact ha)
      exact key.bind fun b hb => ok_pointer.2 hb
    · exact cl_stuck
  · exact cl_stuck
theorem cl_field {t : TypeId} {x : Value} {f : Nat} (hx : Ok S x) : Cl S P (Instr.field t x f) (Ok S) := by
  unfold Instr.field
  refine (cl_underlying t).bind fun d _ => ?_
  split
  · split
    · exact (cl_asAgg hx).bind fun cs hcs => cl_part hcs
    · exact cl_stuck
  · exact cl_stuck
theorem cl_extract {x : Value} {i : Nat} (hx : Ok S x) : Cl S P (Instr.extract x i) (Ok S) := by
  unfold Instr.extract
  split
  · split
    · rename_i v h; exact cl_pure (ok_tuple.1 hx v (Array.mem_of_getElem? h))
    · exact cl_stuck
  · exact cl_stuck
theorem cl_len {ts : Array TypeId} {t : TypeId} {args : Array Value} (hx : ∀ v ∈ args, Ok S v) : Cl S P (Builtin.len_ ts t args) (Ok S) := by
  unfold Builtin.len_
  split
  · rename_i _ tt x h1
    have h2 : args[0]? = some x := (Prod.mk.inj h1).2
    have hok : Ok S x := hx x (Array.mem_of_getElem? h2)
    refine (cl_underlying tt).bind fun d _ => ?_
    split <;> first
      | exact cl_pure (.int _ _)
      | exact cl_stuck
      | (cases hok; done)
      | exact (cl_underlying _).bind fun d _ => by split <;> first | exact cl_pure (.int _ _) | exact cl_stuck
  · exact cl_stuck
theorem cl_lenOf (x : Value) : Cl S P (Builtin.lenOf x) (fun _ => True) := by cases x <;> trivial
theorem cl_firstCells {size n : Nat} {x : Value} (hx : Ok S x) : Cl S P (Builtin.firstCells size n x) (fun cs => ∀ v ∈ cs, Ok S v) := by
  cases x with
  | slice a l c =>
    cases a with
    | none => exact cl_pure (by simp)
    | some a => exact cl_loadCells (ok_slice.1 hx) _
  | string s =>
    refine cl_pure fun v hv => ?_
    obtain ⟨b, _, rfl⟩ := Array.mem_map.1 hv
    exact .int _ _
  | _ => exact cl_stuck
theorem cl_copy {ts : Array TypeId} {t : TypeId} {args : Array Value} (hx : ∀ v ∈ args, Ok S v) : Cl S P (Builtin.copy_ ts t args) (Ok S) := by
  unfold Builtin.copy_
  split
  · rename_i _ dt dst src h1
    have h2 : args[0]? = some dst := (Prod.mk.inj (Prod.mk.inj h1).2).1
    have h3 : args[1]? = some src := (Prod.mk.inj (Prod.mk.inj h1).2).2
    have hd : Ok S dst := hx dst (Array.mem_of_getElem? h2)
    have hs : Ok S src := hx src (Array.mem_of_getElem? h3)
    refine (cl_underlying dt).bind fun d _ => ?_
    split
    · split
      · rename_i base dl _
        refine (cl_lenOf src).bind fun n _ => (cl_sizeOf _).bind fun sz _ => (cl_firstCells hs).bind fun cs hcs => ?_
        dsimp only
        cases base with
        | none => exact cl_pure (.int _ _)
        | some a => exact cl_seq (cl_storeCells (ok_slice.1 hd) _ 0 fun v hv => hcs v (Array.mem_toList_iff.1 hv)) (cl_pure (.int _ _))
      · exact cl_stuck
    · exact cl_stuck
  · exact cl_stuck
end

end Go.Proofs.YtiodikflmijhkaaGreatDoor.Vow
end

section
set_option linter.unusedSectionVars false
set_option linter.unusedVariables false
namespace Go.Proofs.YtiodikflmijhkaaGreatDoor.Vow
open Go Go.Conc

/-! ### the test -/
def flatB : Value → Bool
  | .bool _ | .int _ _ | .string _ | .pointer none | .slice none _ _ | .nilFunc | .nilIface => true
  | _ => false
def constB : Value → Bool
  | .agg cs | .tuple cs => cs.all flatB
  | v => flatB v
def opdB (gB : Nat → Bool) (fB : FuncId → Bool) : Operand → Bool
  | .tmp _ => true
  | .const v => constB v
  | .global g => gB g
  | .func f => fB f
def plainB (P : Program) (t : TypeId) : Bool := match P.underlying t with
  | some (.int _) | some .bool | some .string | some (.slice _) => true
  | _ => false
def intB (P : Program) (t : TypeId) : Bool := match P.underlying t with
  | some (.int _) => true
  | _ => false
def zeroB (P : Program) (t : TypeId) : Bool := match P.info? t with
  | some i => (match i.zero with | some v => constB v | none => true)
  | none => true
def elemB (P : Program) (t : TypeId) : Bool := match P.underlying t with
  | some (.slice e) => zeroB P e
  | _ => true
def callB (P : Program) (gB : Nat → Bool) (fB : FuncId → Bool) (c : Call) : Bool := c.args.all (opdB gB fB) && match c.callee with
  | .value f => opdB gB fB f
  | .builtin .len | .builtin .copy | .builtin .max => true
  | .builtin .append => match c.argTypes[0]? with | some t => elemB P t | none => true
  | _ => false
def opB (P : Program) (gB : Nat → Bool) (fB : FuncId → Bool) (o : Op) : Bool := match o with
  | .move x | .assign x | .box _ x | .load _ x | .nilCheck x | .unOp _ _ x | .fieldAddr _ x _ | .field _ x _ | .extract x _ => opdB gB fB x
  | .pick c a b => opdB gB fB c && opdB gB fB a && opdB gB fB b
  | .alloc t => zeroB P t
  | .build t ps => zeroB P t && ps.all fun p => opdB gB fB p.2
  | .buildSlice t _ ps => elemB P t && ps.all fun p => opdB gB fB p.2
  | .store _ a v | .indexAddr _ a v | .index _ a v => opdB gB fB a && opdB gB fB v
  | .binOp op t a b _ => opdB gB fB a && opdB gB fB b && (match op with | .eql | .neq => plainB P t | _ => true)
  | .convert s d x => intB P s && intB P d && opdB gB fB x
  | .makeSlice t a b => elemB P t && opdB gB fB a && opdB gB fB b
  | .slice _ x lo hi mx => opdB gB fB x && lo.all (opdB gB fB) && hi.all (opdB gB fB) && mx.all (opdB gB fB)
  | .call c => callB P gB fB c
  | .makeFunc (.func f) first cap => fB f && first.all (opdB gB fB) && cap.all (opdB gB fB)
  | _ => false
def codeB (P : Program) (gB : Nat → Bool) (fB : FuncId → Bool) : Code → Bool
  | .skip | .ret | .label _ | .exit _ | .refuse _ => true
  | .region _ ops _ => ops.all fun o => opB P gB fB o.op
  | .seq a b | .cond _ a b => codeB P gB fB a && codeB P gB fB b
  | .block _ b | .loop b => codeB P gB fB b
  | .rangeFunc f _ a b => opdB gB fB f && codeB P gB fB a && codeB P gB fB b
  | _ => false
def funcB (P : Program) (gB : Nat → Bool) (fB : FuncId → Bool) (f : FuncId) : Bool := match P.funcs[f]? with
  | some fn => fn.name != "runtime.NumGoroutine" && (match fn.body with | some c => codeB P gB fB c | none => false)
  | none => false

section
variable {S : Scope} {P : Program} {gB : Nat → Bool} {fB : FuncId → Bool}

theorem flat_ok {v : Value} (h : flatB v = true) : Ok S v := by
  cases v with
  | bool b => exact .bool _
  | int k n => exact .int _ _
  | string s => exact .string _
  | pointer a => cases a with
    | none => exact ok_nilptr
    | some a => cases h
  | slice a l c => cases a with
    | none => exact ok_nilslice
    | some a => cases h
  | nilFunc => exact .nilFunc
  | nilIface => exact .nilIface
  | _ => cases h
theorem const_ok {v : Value} (h : constB v = true) : Ok S v := by
  have key : ∀ cs : Array Value, cs.all flatB = true → ∀ x ∈ cs, Ok S x := fun cs h x hx => flat_ok (Array.all_eq_true_iff_forall_mem.1 h x hx)
  cases v with
  | agg cs => exact ok_agg.2 (key cs h)
  | tuple cs => exact ok_tuple.2 (key cs h)
  | _ => exact flat_ok h

structure Fits (S : Scope) (P : Program) (gB : Nat → Bool) (fB : FuncId → Bool) : Prop where
  glob : ∀ g, gB g = true → ¬ S.D g
  func : ∀ f, fB f = true → S.F f
  known : ∀ f, S.F f → funcB P gB fB f = true
  code : ∀ c, S.C c ↔ codeB P gB fB c = true

theorem eval_ok (hF : Fits S P gB fB) {fr : Frame} (h : TmpsOk S fr.tmps) {x : Operand} (hx : opdB gB fB x = true) : Ok S (fr.eval x) := by
  cases x with
  | tmp t =>
    show Ok S (fr.tmps.getD t undef)
    rw [Array.getD_eq_getD_getElem?]
    cases ht : fr.tmps[t]? with
    | none => exact ok_undef
    | some v => exact h v (Array.mem_of_getElem? ht)
  | const v => exact const_ok hx
  | global g => exact ok_pointer.2 (hF.glob g hx)
  | func f => exact .func _ _ _ (hF.func f hx) (by simp) (by simp)

theorem plain_of {t : TypeId} (h : plainB P t = true) : Plain P t := by
  unfold plainB at h
  unfold Plain
  split at h
  · rename_i k e; exact .inl ⟨k, e⟩
  · rename_i e; exact .inr (.inl e)
  · rename_i e; exact .inr (.inr (.inl e))
  · rename_i e e2; exact .inr (.inr (.inr ⟨_, e2⟩))
  · cases h
theorem int_of {t : TypeId} (h : intB P t = true) : ∃ k, P.underlying t = some (.int k) := by
  unfold intB at h
  split at h
  · rename_i k e; exact ⟨k, e⟩
  · cases h
theorem zero_of {t : TypeId} (h : zeroB P t = true) : ZeroOk S P t := by
  intro i v hi hv
  unfold zeroB at h
  rw [hi] at h
  simp only [hv] at h
  exact const_ok h
theorem elem_of {t : TypeId} (h : elemB P t = true) : ∀ e, P.underlying t = some (.slice e) → ZeroOk S P e := by
  intro e he
  unfold elemB at h
  rw [he] at h
  exact zero_of h

theorem cl_v {s : Sem Value} (h : Cl S P s (Ok S)) : Cl S P (do pure (.value (← s)) : Sem Next) (NextOk S) := h.bind fun v hv => hv
theorem cl_u {s : Sem Unit} (h : Cl S P s fun _ => True) : Cl S P (do s; pure .skip : Sem Next) (NextOk S) := h.bind fun _ _ => trivial

theorem cl_callFunc (hF : Fits S P gB fB) {f : FuncId} {args : Array Value} (hf : S.F f) (ha : ∀ v ∈ args, Ok S v) : Cl S P (callFunc f args) (NextOk S) := by
  have hk := hF.known f hf
  unfold funcB at hk
  unfold callFunc
  refine cl_program ?_
  cases hfn : P.funcs[f]? with
  | none => rw [hfn] at hk; cases hk
  | some fn =>
    rw [hfn] at hk
    simp only [Bool.and_eq_true, bne_iff_ne, ne_eq] at hk
    cases hb : fn.body with
    | none => rw [hb] at hk; exact absurd hk.2 (by simp)
    | some c =>
      refine cl_ite (fun h => absurd (by simpa using h) hk.1) fun _ => ?_
      rw [hb]
      exact ⟨hf, ha⟩

theorem cl_max2 {x y : Value} (hx : Ok S x) (hy : Ok S y) : Cl S P (Builtin.max2 x y) (Ok S) := by
  unfold Builtin.max2
  split
  · exact cl_pure (.int _ _)
  · cases hx
  · exact cl_stringOp.bind fun b _ => (cl_asBool b).bind fun t _ => cl_pure (.string _)
  · exact cl_observed
  · exact cl_observed
  · exact cl_stuck
theorem cl_max {ts : Array TypeId} {t : TypeId} {args : Array Value} (hx : ∀ v ∈ args, Ok S v) : Cl S P (Builtin.max_ ts t args) (Ok S) := by
  unfold Builtin.max_
  have h : ∀ v ∈ args.toList, Ok S v := fun v hv => hx v (Array.mem_toList_iff.1 hv)
  cases hl : args.toList with
  | nil => exact cl_stuck
  | cons x rest =>
    rw [hl] at h
    have key : ∀ (l : List Value) (x : Value), Ok S x → (∀ v ∈ l, Ok S v) → Cl S P (l.foldlM Builtin.max2 x) (Ok S) := by
      intro l
      induction l with
      | nil => exact fun x hx _ => hx
      | cons y l ih =>
        intro x hx hl
        rw [List.foldlM_cons]
        exact (cl_max2 hx (hl y (by simp))).bind fun z hz => ih z hz fun v hv => hl v (by simp [hv])
    exact key rest x (h x (by simp)) fun v hv => h v (by simp [hv])
theorem zeroCells_ok {z : Array Value} (hz : ∀ v ∈ z, Ok S v) (n : Nat) : ∀ v ∈ Builtin.zeroCells z n, Ok S v := zeros_ok hz _
theorem cl_holdsCells {a : Addr} {n : Nat} : Cl S P (Builtin.holdsCells a n) (fun _ => True) := by
  unfold Builtin.holdsCells
  refine cl_shape fun s => ?_
  split <;> trivial
theorem cl_pureB {α β : Type} {a : α} {f : α → Sem β} {Φ : β → Prop} (h : Cl S P (f a) Φ) : Cl S P (pure a >>= f) Φ := h
theorem cl_errorB {α β : Type} {e : String} {f : α → Sem β} {Φ : β → Prop} : Cl S P (runtimePanic (.error e) >>= f) Φ := trivial
theorem cl_limitB {α β : Type} {e : String} {f : α → Sem β} {Φ : β → Prop} : Cl S P (unsupported (.resourceLimit e) >>= f) Φ := fun _ e => by cases e
theorem cl_markB {β : Type} {f : Unit → Sem β} {Φ : β → Prop} (h : Cl S P (f ()) Φ) : Cl S P (mark .noRoom >>= f) Φ := ⟨rfl, h⟩
theorem cl_mayShare {a b c : Nat} {x : Value} {base : Option Addr} : Cl S P (Builtin.mayShare a b c base x) (fun _ => True) := by
  unfold Builtin.mayShare
  dsimp only
  repeat' first
    | with_reducible exact cl_pure True.intro
    | (with_reducible refine cl_pureB ?_)
    | (with_reducible refine Cl.bind (cl_holdsCells (S := S) (P := P)) fun _ _ => ?_)
    | (with_reducible refine cl_frozen fun _ => ?_)
    | (with_reducible refine cl_ite (fun _ => ?_) fun _ => ?_)
    | split
set_option maxHeartbeats 8000000 in
theorem cl_append {ts : Array TypeId} {t : TypeId} {args : Array Value} (hz : ∀ t0, ts[0]? = some t0 → elemB P t0 = true) (hx : ∀ v ∈ args, Ok S v) : Cl S P (Builtin.append_ ts t args) (Ok S) := by
  unfold Builtin.append_
  split
  · rename_i _ sType s x h1
    have h0 : ts[0]? = some sType := (Prod.mk.inj h1).1
    have h2 : args[0]? = some s := (Prod.mk.inj (Prod.mk.inj h1).2).1
    have h3 : args[1]? = some x := (Prod.mk.inj (Prod.mk.inj h1).2).2
    have hs : Ok S s := hx s (Array.mem_of_getElem? h2)
    have hxx : Ok S x := hx x (Array.mem_of_getElem? h3)
    refine (cl_underlying sType).bind fun d hd => ?_
    split
    · rename_i elem
      have hze : ZeroOk S P elem := elem_of (hz sType h0) elem hd
      split
      · rename_i base sLen sCap
        refine (cl_sizeOf elem).bind fun size _ => ?_
        have hap : ∀ (zeros : Bool) (n : Nat), Cl S P (if (!zeros) = true then Builtin.firstCells size n x else if n * size = 0 then pure #[] else (zeroValue elem >>= fun z => pure (Builtin.zeroCells z.cells n))) (fun cs => ∀ v ∈ cs, Ok S v) := fun zeros n =>
          cl_ite (fun _ => cl_firstCells hxx) fun _ => cl_ite (fun _ => cl_pure (by simp)) fun _ => (cl_zero hze).bind fun z hzz => cl_pure (zeroCells_ok (ok_cells hzz) n)
        have hs' : ∀ l c, Ok S (.slice base l c) := fun l c => by
          cases base with
          | none => exact ok_nilslice
          | some a => exact ok_slice.2 (ok_slice.1 hs)
        have h3 : ∀ {a b c : Array Value}, (∀ v ∈ a, Ok S v) → (∀ v ∈ b, Ok S v) → (∀ v ∈ c, Ok S v) → ∀ v ∈ a ++ b ++ c, Ok S v := fun ha hb hc v hv => (Array.mem_append.1 hv).elim (fun h => (Array.mem_append.1 h).elim (ha v) (hb v)) (hc v)
        dsimp only
        repeat' first
          | with_reducible exact cl_errorB
          | with_reducible exact cl_limitB
          | with_reducible exact cl_limit
          | with_reducible exact cl_error
          | (with_reducible refine cl_pureB ?_)
          | (with_reducible refine cl_markB ?_)
          | (with_reducible refine (cl_typeInfo _).bind fun _ _ => ?_)
          | (with_reducible refine (cl_underlying _).bind fun _ _ => ?_)
          | (with_reducible refine (cl_asInt _).bind fun _ _ => ?_)
          | (with_reducible refine (cl_lenOf _).bind fun _ _ => ?_)
          | (with_reducible refine cl_choose fun _ => ?_)
          | (with_reducible refine cl_seq cl_askRoom ?_)
          | (with_reducible refine Cl.bind (hap _ _) fun new hnew => ?_)
          | (with_reducible refine (cl_firstCells hs).bind fun old hold => ?_)
          | (with_reducible refine (cl_zero hze).bind fun z hzz => ?_)
          | (with_reducible refine (cl_newRow (h3 hold hnew (zeroCells_ok (ok_cells hzz) _))).bind fun r hr => cl_pure (ok_slice.2 hr))
          | (with_reducible refine Cl.bind (cl_mayShare (S := S) (P := P)) fun _ _ => ?_)
          | (with_reducible refine cl_seq (cl_storeCells (by rw [add_block]; exact ok_slice.1 hs) _ 0 fun v hv => hnew v (Array.mem_toList_iff.1 hv)) ?_)
          | with_reducible exact cl_pure (hs' _ _)
          | (with_reducible refine cl_ite (fun _ => ?_) fun _ => ?_)
          | (with_reducible refine Cl.bind (Φ := fun _ => True) (cl_ite (fun _ => ?_) fun _ => ?_) fun _ _ => ?_)
          | (with_reducible refine Cl.bind (Φ := fun _ => True) (Cl.bind (cl_mayShare (S := S) (P := P)) fun _ _ => ?_) fun _ _ => ?_)
          | with_reducible exact cl_pure True.intro
          | split
      · exact cl_stuck
    · exact cl_stuck
  · exact cl_stuck

theorem op_ok (hF : Fits S P gB fB) {o : Oper} (h : opB P gB fB o.op = true) : OpOk S P o := by
  refine ⟨fun c e => (by rw [e] at h; cases h), ?_⟩
  intro fr ht
  obtain ⟨dst, op, ty, pos, after, guard⟩ := o
  have ev : ∀ {x}, opdB gB fB x = true → Ok S (fr.eval x) := fun hx => eval_ok hF ht hx
  simp only at h
  have evs : ∀ {xs : Array Operand}, xs.all (opdB gB fB) = true → ∀ v ∈ xs.map fr.eval, Ok S v := fun {xs} hxs v hv => by
    obtain ⟨x, hx, rfl⟩ := Array.mem_map.1 hv
    exact ev (Array.all_eq_true_iff_forall_mem.1 hxs x hx)
  have evp : ∀ {ps : Array (Nat × Operand)}, (ps.all fun p => opdB gB fB p.2) = true → ∀ p ∈ ps.map (fun x => (x.1, fr.eval x.2)), Ok S p.2 := fun {ps} hps p hp => by
    obtain ⟨x, hx, rfl⟩ := Array.mem_map.1 hp
    exact ev (Array.all_eq_true_iff_forall_mem.1 hps x hx)
  cases op with
  | move x => exact ev h
  | assign x => exact ev h
  | pick c a b =>
    simp only [opB, Bool.and_eq_true] at h
    refine (cl_asBool _).bind fun t _ => cl_pure ?_
    cases t
    · exact ev h.2
    · exact ev h.1.2
  | alloc t => exact cl_v ((cl_zero (zero_of h)).bind fun z hz => (cl_newVar hz).bind fun a ha => ok_pointer.2 ha)
  | box t x => exact cl_v ((cl_newVar (ev h)).bind fun a ha => ok_pointer.2 ha)
  | build t ps =>
    simp only [opB, Bool.and_eq_true] at h
    exact cl_v (cl_build (zero_of h.1) (evp h.2))
  | buildSlice t n ps =>
    simp only [opB, Bool.and_eq_true] at h
    exact cl_v (cl_buildSlice (elem_of h.1) (evp h.2))
  | load t a => exact cl_v ((cl_sureAddr (ev h)).bind fun x hx => cl_loadVar hx)
  | store t a v =>
    simp only [opB, Bool.and_eq_true] at h
    exact cl_u ((cl_sureAddr (ev h.1)).bind fun x hx => cl_storeVar hx (ev h.2))
  | nilCheck x =>
    have hx := ev h
    unfold execOp
    dsimp only
    revert hx
    generalize fr.eval x = v
    intro hx
    cases v with
    | pointer a => cases a with
      | none => exact cl_nilDeref
      | some a => exact hx
    | func fn a b =>
      cases fn with
      | method name => cases hx with | func _ _ _ hf _ _ => exact hf.elim
      | _ => exact hx
    | nilFunc => exact cl_nilDeref
    | nilIface => exact cl_nilDeref
    | _ => exact hx
  | binOp op t a b t' =>
    simp only [opB, Bool.and_eq_true] at h
    have hp : (op = .eql ∨ op = .neq) → Plain P t := fun e => by rcases e with rfl | rfl <;> exact plain_of h.2
    exact cl_v (cl_seq (cl_eqGuard hp) (cl_binOp hp (ev h.1.1) (ev h.1.2)))
  | unOp op t x => exact cl_v (cl_unary (ev h))
  | convert s d x =>
    simp only [opB, Bool.and_eq_true] at h
    exact cl_v (cl_convert (int_of h.1.1) (int_of h.1.2) (ev h.2))
  | makeSlice t a b =>
    simp only [opB, Bool.and_eq_true] at h
    exact cl_v (cl_makeSlice (elem_of h.1.1))
  | slice t x lo hi mx =>
    simp only [opB, Bool.and_eq_true] at h
    exact cl_v (cl_sliceAt (ev h.1.1.1))
  | fieldAddr t x f => exact cl_v (cl_fieldAt (ev h))
  | field t x f => exact cl_v (cl_field (ev h))
  | indexAddr t a b =>
    simp only [opB, Bool.and_eq_true] at h
    exact cl_v (cl_indexAt (ev h.1))
  | index t a b =>
    simp only [opB, Bool.and_eq_true] at h
    exact cl_v (cl_index (ev h.1))
  | extract x i => exact cl_v (cl_extract (ev h))
  | call c =>
    obtain ⟨callee, args, argTypes⟩ := c
    simp only [opB, callB, Bool.and_eq_true] at h
    have ha := evs h.1
    cases callee with
    | value f =>
      have hf := ev h.2
      show Cl S P (Deferred.ofValue (fr.eval f) (args.map fr.eval) >>= fun d => invoke d.target d.args) _
      revert hf
      generalize fr.eval f = v
      intro hf
      cases v with
      | nilFunc => exact cl_nilDeref
      | func fn first captured =>
        cases hf with
        | func _ _ _ hfn h1 h2 =>
          cases fn with
          | func f =>
            refine cl_callFunc hF hfn fun v hv => ?_
            rcases Array.mem_append.1 hv with hv | hv
            · rcases Array.mem_append.1 hv with hv | hv
              · exact h1 v hv
              · exact ha v hv
            · exact h2 v hv
          | yield l => exact cl_yield hfn fun v hv => (Array.mem_append.1 hv).elim (h1 v) (ha v)
          | _ => exact hfn.elim
      | _ => exact cl_stuck
    | builtin b =>
      cases b with
      | len => exact cl_v (cl_len ha)
      | copy => exact cl_v (cl_copy ha)
      | max => exact cl_v (cl_max ha)
      | append => exact cl_v (cl_append (fun t0 e => by have h2 := h.2; simp only [e] at h2; exact h2) ha)
      | _ => exact absurd h.2 (by simp)
    | invoke r m => exact absurd h.2 (by simp)
  | makeFunc fn first cap =>
    cases fn with
    | func f =>
      simp only [opB, Bool.and_eq_true] at h
      exact cl_v (cl_pure (.func _ _ _ (hF.func f h.1.1) (evs h.1.2) (evs h.2)))
    | _ => cases h
  | _ => cases h

theorem cl_rangeCall (hF : Fits S P gB fB) {fr : Frame} {f : Operand} {l : Nat} (hf : Ok S (fr.eval f)) (hl : ¬ S.D l) : Cl S P (rangeCall fr.eval f l) (NextOk S) := by
  have ha : ∀ v ∈ (#[Value.func (.yield l) #[] #[]] : Array Value), Ok S v := fun v hv => by
    simp only [List.mem_toArray, List.mem_cons, List.not_mem_nil, or_false] at hv
    subst hv
    exact .func _ _ _ hl (by simp) (by simp)
  have e : rangeCall fr.eval f l = (Deferred.ofValue (fr.eval f) #[Value.func (.yield l) #[] #[]] >>= fun d => invoke d.target d.args) := by
    unfold rangeCall resolve
    simp only [List.map_toArray, List.map_cons, List.map_nil]
    rfl
  rw [e]
  clear e
  revert hf
  generalize fr.eval f = v
  intro hf
  cases v with
  | nilFunc => exact cl_nilDeref
  | func fn first captured =>
    cases hf with
    | func _ _ _ hfn h1 h2 =>
      cases fn with
      | func f =>
        refine cl_callFunc hF hfn fun v hv => ?_
        rcases Array.mem_append.1 hv with hv | hv
        · rcases Array.mem_append.1 hv with hv | hv
          · exact h1 v hv
          · exact ha v hv
        · exact h2 v hv
      | yield l => exact cl_yield hfn fun v hv => (Array.mem_append.1 hv).elim (h1 v) (ha v)
      | _ => exact hfn.elim
  | _ => exact cl_stuck
theorem code_ok (hF : Fits S P gB fB) : ∀ {c : Code}, codeB P gB fB c = true → CodeOk S P c
  | .skip, _ | .ret, _ | .label _, _ | .exit _, _ | .refuse _, _ => trivial
  | .region _ ops _, h => fun o ho => op_ok hF (Array.all_eq_true_iff_forall_mem.1 h o ho)
  | .seq a b, h => by
    simp only [codeB, Bool.and_eq_true] at h
    exact ⟨code_ok hF h.1, code_ok hF h.2⟩
  | .cond _ a b, h => by
    simp only [codeB, Bool.and_eq_true] at h
    exact ⟨code_ok hF h.1, code_ok hF h.2⟩
  | .block _ b, h => code_ok (c := b) hF h
  | .loop b, h => code_ok (c := b) hF h
  | .rangeFunc f ps a b, h => by
    simp only [codeB, Bool.and_eq_true] at h
    exact ⟨(hF.code _).2 h.1.2, (hF.code _).2 h.2, fun fr l ht hl => cl_rangeCall hF (eval_ok hF ht h.1.1) hl⟩
  | .scope _, h => by cases h
  | .goto _, h => by cases h

theorem cl_results {fn : Func} {tmps : Array Value} (h : TmpsOk S tmps) : Cl S P (results fn tmps) (Ok S) := by
  unfold results
  have get : ∀ t : Tmp, Ok S (tmps.getD t undef) := fun t => by
    rw [Array.getD_eq_getD_getElem?]
    cases ht : tmps[t]? with
    | none => exact ok_undef
    | some v => exact h v (Array.mem_of_getElem? ht)
  have one : ∀ r : ResultVar, Cl S P (match r with | .tmp t => pure (tmps.getD t undef) | .cell a t => do loadVar t (← asAddr (tmps.getD a undef)) : Sem Value) (Ok S) := fun r => by
    cases r with
    | tmp t => exact get t
    | cell a t => exact (cl_asAddr (get a)).bind fun x hx => cl_loadVar hx
  rw [Array.mapM_eq_foldlM, ← Array.foldlM_toList]
  have key : ∀ (l : List ResultVar) (bs : Array Value), (∀ v ∈ bs, Ok S v) → Cl S P (l.foldlM (fun bs a => bs.push <$> (match a with | .tmp t => pure (tmps.getD t undef) | .cell a t => do loadVar t (← asAddr (tmps.getD a undef)) : Sem Value)) bs) (fun vs => ∀ v ∈ vs, Ok S v) := by
    intro l
    induction l with
    | nil => exact fun bs hb => hb
    | cons x l ih =>
      intro bs hb
      rw [List.foldlM_cons, map_eq_pure_bind]
      refine Cl.bind ((one x).bind (Ψ := fun bs : Array Value => ∀ v ∈ bs, Ok S v) fun b hb' => ?_) fun bs' hbs => ih bs' hbs
      intro v hv
      rcases Array.mem_push.1 hv with h1 | rfl
      · exact hb v h1
      · exact hb'
  refine (key _ #[] (by simp)).bind fun vs hvs => cl_pure ?_
  split
  · exact hvs _ (Array.getElem_mem _)
  · exact ok_tuple.2 hvs

theorem scope_ok (hF : Fits S P gB fB) : ScopeOk S P := by
  refine ⟨fun f hf => ?_, fun f fn hf _ tmps ht => cl_results ht, fun c hc => code_ok hF ((hF.code c).1 hc), (hF.code _).2 rfl, fun id => (hF.code _).2 rfl⟩
  have hk := hF.known f hf
  unfold funcB at hk
  cases hfn : P.funcs[f]? with
  | none => rw [hfn] at hk; cases hk
  | some fn =>
    rw [hfn] at hk
    simp only [Bool.and_eq_true, bne_iff_ne, ne_eq] at hk
    cases hb : fn.body with
    | none => rw [hb] at hk; exact absurd hk.2 (by simp)
    | some c => rw [hb] at hk; exact ⟨fn, c, rfl, hb, code_ok hF hk.2⟩
end

end Go.Proofs.YtiodikflmijhkaaGreatDoor.Vow
end
