/- Joined texts: N4. -/
import Derived.Test.YtiodikflmijhkaaGreatDoorJ40
import Derived.Laws.Sem
set_option linter.unusedSectionVars false
set_option linter.unusedVariables false
set_option linter.unusedSimpArgs false
namespace Go.Proofs.YtiodikflmijhkaaGreatDoor.Nmo
open Go Go.Conc

def Scope.D (S : Scope) (b : Nat) : Prop := False
def Ok (S : Scope) (v : Value) : Prop := True
def OkObj (S : Scope) (o : Obj) : Prop := True
section
variable {S : Scope}
theorem noD {b : Nat} : ¬ S.D b := fun h => h
theorem Ok.bool (b : Bool) : Ok S (.bool b) := trivial
theorem Ok.int (k : IntKind) (n : Int) : Ok S (.int k n) := trivial
theorem Ok.string (s : ByteArray) : Ok S (.string s) := trivial
theorem ok_pointer {a : Addr} : Ok S (.pointer (some a)) ↔ ¬ S.D a.block := ⟨fun _ h => h, fun _ => trivial⟩
theorem ok_slice {a : Addr} {l c : Nat} : Ok S (.slice (some a) l c) ↔ ¬ S.D a.block := ⟨fun _ h => h, fun _ => trivial⟩
theorem ok_nilptr : Ok S (.pointer none) := trivial
theorem ok_nilslice {l c : Nat} : Ok S (.slice none l c) := trivial
theorem ok_agg {cs : Array Value} : Ok S (.agg cs) ↔ ∀ v ∈ cs, Ok S v := ⟨fun _ _ _ => trivial, fun _ => trivial⟩
theorem ok_tuple {cs : Array Value} : Ok S (.tuple cs) ↔ ∀ v ∈ cs, Ok S v := ⟨fun _ _ _ => trivial, fun _ => trivial⟩
theorem ok_undef : Ok S (.tuple #[]) := trivial
theorem ok_cells {v : Value} (h : Ok S v) : ∀ c ∈ v.cells, Ok S c := fun _ _ => trivial
end
def TmpsOk (S : Scope) (tmps : Array Value) : Prop := ∀ v ∈ tmps, Ok S v
theorem TmpsOk.set {S : Scope} {tmps : Array Value} (h : TmpsOk S tmps) {v : Value} (hv : Ok S v) (d : Nat) : TmpsOk S (tmps.setIfInBounds d v) := fun _ _ => trivial

section
variable {S : Scope} {P : Program} {α β : Type} {Φ : α → Prop}

theorem cl_pure {a : α} (h : Φ a) : Cl P (pure a) Φ := h
theorem cl_stuck {why : String} : Cl P (stuck why : Sem α) Φ := trivial
theorem cl_noEntry {s : String} : Cl P (unsupported (.noEntry s) : Sem α) Φ := fun _ e => by cases e
theorem cl_unsafe {s : String} : Cl P (unsupported (.unsafePointer s) : Sem α) Φ := fun _ e => by cases e
theorem cl_observed : Cl P (unsupported .addressObserved : Sem α) Φ := fun _ e => by cases e
theorem cl_limit {s : String} : Cl P (unsupported (.resourceLimit s) : Sem α) Φ := fun _ e => by cases e
theorem cl_program {f : Program → Sem α} (h : Cl P (f P) Φ) : Cl P (program >>= f) Φ := h
theorem cl_choose {q : Question} {f : Nat → Sem α} (h : ∀ n, Cl P (f n) Φ) : Cl P (choose q >>= f) Φ := h
theorem cl_shape {r : Nat} {f : Option (TypeId × Nat) → Sem α} (h : ∀ s, Cl P (f s) Φ) : Cl P (shape r >>= f) Φ := h
theorem cl_frozen {a : Addr} {f : Bool → Sem α} (h : ∀ s, Cl P (f s) Φ) : Cl P (frozen a >>= f) Φ := h
theorem cl_getObj {r : Nat} {f : Obj → Sem α} (hr : ¬ S.D r) (h : ∀ o, OkObj S o → Cl P (f o) Φ) : Cl P (getObj r >>= f) Φ := fun o => h o trivial
theorem cl_load {a : Addr} {m : Mode} (h : ¬ S.D a.block) : Cl P (load a m) (Ok S) := fun v => trivial
theorem cl_store {a : Addr} {v : Value} {m : Mode} (h : ¬ S.D a.block) (hv : Ok S v) : Cl P (store a v m) (fun _ => True) := trivial
theorem cl_ite {c : Prop} [Decidable c] {s t : Sem α} (h1 : c → Cl P s Φ) (h2 : ¬ c → Cl P t Φ) : Cl P (if c then s else t) Φ := by
  split
  · exact h1 ‹_›
  · exact h2 ‹_›
theorem cl_seq {s : Sem Unit} {f : Unit → Sem α} (h : Cl P s fun _ => True) (hf : Cl P (f ()) Φ) : Cl P (s >>= f) Φ := h.bind fun _ _ => hf
theorem cl_askRoom {n : Nat} : Cl P (askRoom n) (fun _ => True) := by
  unfold askRoom
  exact cl_ite (fun _ => ⟨rfl, trivial⟩) fun _ => trivial

theorem add_block (a : Addr) (n : Nat) : (a.add n).block = a.block := by unfold Addr.add; split <;> rfl

theorem cl_underlying (t : TypeId) : Cl P (underlying t) (fun d => P.underlying t = some d) := by
  show Cl P (match P.underlying t with | some d => pure d | none => stuck _) _
  split
  · rename_i h; exact h
  · exact cl_stuck
theorem cl_typeInfo (t : TypeId) : Cl P (typeInfo t) (fun i => P.info? t = some i) := by
  show Cl P (match P.info? t with | some i => pure i | none => stuck _) _
  split
  · rename_i h; exact h
  · exact cl_stuck
theorem cl_sizeOf (t : TypeId) : Cl P (sizeOf t) (fun _ => True) := (cl_typeInfo t).bind fun _ _ => trivial
theorem cl_isAgg (t : TypeId) : Cl P (isAgg t) (fun _ => True) := (cl_underlying t).bind fun d _ => by
  cases d <;> exact cl_pure trivial
/-- The zero value of the type holds no address. -/
def ZeroOk (S : Scope) (P : Program) (t : TypeId) : Prop := ∀ i v, P.info? t = some i → i.zero = some v → Ok S v
theorem cl_zero {t : TypeId} (h : ZeroOk S P t) : Cl P (zeroValue t) (Ok S) := (cl_typeInfo t).bind fun i hi => by
  show Cl P (match i.zero with | some v => pure v | none => unsupported _) _
  split
  · rename_i v hv; exact h i v hi hv
  · exact cl_limit

theorem cl_loadCellsFrom {a : Addr} (h : ¬ S.D a.block) : ∀ (n i : Nat) (acc : Array Value), (∀ v ∈ acc, Ok S v) → Cl P (loadCellsFrom a i n acc) (fun cs => ∀ v ∈ cs, Ok S v)
  | 0, i, acc, ha => ha
  | n + 1, i, acc, ha => by
    refine (cl_load (by rw [add_block]; exact h)).bind fun v hv => cl_loadCellsFrom h n (i + 1) _ fun x hx => ?_
    rcases Array.mem_push.1 hx with h1 | rfl
    · exact ha x h1
    · exact hv
theorem cl_loadCells {a : Addr} (h : ¬ S.D a.block) (n : Nat) : Cl P (loadCells a n) (fun cs => ∀ v ∈ cs, Ok S v) := cl_loadCellsFrom h n 0 #[] (by simp)
theorem cl_storeCells {a : Addr} (h : ¬ S.D a.block) : ∀ (vs : List Value) (i : Nat), (∀ v ∈ vs, Ok S v) → Cl P (storeCells a vs i) (fun _ => True)
  | [], _, _ => trivial
  | v :: r, i, hv => (cl_store (by rw [add_block]; exact h) (hv v (by simp))).bind fun _ _ => cl_storeCells h r (i + 1) fun x hx => hv x (by simp [hx])
theorem cl_loadVar {t : TypeId} {a : Addr} (h : ¬ S.D a.block) : Cl P (loadVar t a) (Ok S) := (cl_isAgg t).bind fun b _ => by
  refine cl_ite (fun _ => ?_) fun _ => cl_load h
  exact (cl_sizeOf t).bind fun n _ => (cl_loadCells h n).bind fun cs hcs => ok_agg.2 hcs
theorem cl_storeVar {t : TypeId} {a : Addr} (h : ¬ S.D a.block) {v : Value} (hv : Ok S v) : Cl P (storeVar t a v) (fun _ => True) := (cl_sizeOf t).bind fun n _ => by
  have key : Cl P (storeCells a v.cells.toList) (fun _ => True) := cl_storeCells h _ 0 fun x hx => ok_cells hv x (Array.mem_toList_iff.1 hx)
  exact cl_ite (fun _ => cl_seq cl_stuck key) fun _ => key
theorem cl_newRow {t : TypeId} {cs : Array Value} (h : ∀ v ∈ cs, Ok S v) : Cl P (newRow t cs) (fun a => ¬ S.D a.block) := fun r => noD
theorem cl_newVar {t : TypeId} {v : Value} (h : Ok S v) : Cl P (newVar t v) (fun a => ¬ S.D a.block) := cl_newRow (ok_cells h)
theorem mem_extract {cs : Array Value} {a b : Nat} {v : Value} (h : v ∈ cs.extract a b) : v ∈ cs := by
  obtain ⟨i, hi, rfl⟩ := Array.mem_iff_getElem.1 h
  rw [Array.getElem_extract]
  exact Array.getElem_mem _
theorem cl_part {t : TypeId} {cs : Array Value} {off : Nat} (h : ∀ v ∈ cs, Ok S v) : Cl P (part t cs off) (Ok S) := (cl_isAgg t).bind fun b _ => by
  refine cl_ite (fun _ => ?_) fun _ => ?_
  · exact (cl_sizeOf t).bind fun n _ => ok_agg.2 fun v hv => h v (mem_extract hv)
  · split
    · rename_i v hv; exact h v (Array.mem_of_getElem? hv)
    · exact cl_stuck

theorem cl_error {s : String} : Cl P (runtimePanic (.error s) : Sem α) Φ := trivial
theorem cl_nilDeref : Cl P (runtimePanic .nilDeref : Sem α) Φ := trivial
theorem cl_bounds {k : IntKind} {x y : Int} {c : BoundsCode} : Cl P (boundsPanic k x y c : Sem α) Φ := by
  unfold boundsPanic
  refine cl_ite (fun _ => ?_) fun _ => ?_
  · exact fun n => trivial
  · exact trivial
theorem cl_asIntOf (v : Value) : Cl P (asIntOf v) (fun _ => True) := by
  cases v with
  | int k n => exact cl_pure trivial
  | pointer a => cases a <;> first | exact cl_stuck | exact cl_observed
  | _ => exact cl_stuck
theorem cl_asInt (v : Value) : Cl P (asInt v) (fun _ => True) := (cl_asIntOf v).bind fun _ _ => trivial
theorem cl_asBool (v : Value) : Cl P (asBool v) (fun _ => True) := by cases v <;> trivial
theorem cl_asAgg {v : Value} (h : Ok S v) : Cl P (asAgg v) (fun cs => ∀ x ∈ cs, Ok S x) := by
  cases v with
  | agg cs => exact ok_agg.1 h
  | _ => exact cl_stuck
theorem cl_asAddr {v : Value} (h : Ok S v) : Cl P (asAddr v) (fun a => ¬ S.D a.block) := by
  cases v with
  | pointer a =>
    cases a with
    | none => exact cl_nilDeref
    | some a => exact ok_pointer.1 h
  | _ => exact cl_stuck
theorem cl_sureAddr {v : Value} (h : Ok S v) : Cl P (Instr.sureAddr v) (fun a => ¬ S.D a.block) := by
  cases v with
  | pointer a =>
    cases a with
    | none => exact cl_stuck
    | some a => exact ok_pointer.1 h
  | _ => exact cl_stuck

theorem cl_viewAt {r : Nat} (h : ¬ S.D r) : Cl P (viewAt r) (fun _ => True) := by
  unfold viewAt
  refine cl_shape fun s => cl_ite (fun _ => trivial) fun _ => cl_getObj (S := S) h fun o ho => ?_
  cases o <;> exact cl_pure trivial
theorem cl_numberAt {r : Nat} (h : ¬ S.D r) : Cl P (numberAt r) (fun x => ∀ a b, x = some (a, b) → ¬ S.D a.block) := by
  unfold numberAt
  refine cl_shape fun s => cl_ite (fun _ => cl_pure fun _ _ e => by cases e) fun _ => cl_getObj h fun o ho => ?_
  cases o with
  | number a lost =>
    refine cl_pure fun x y e => ?_
    simp only [Option.some.injEq, Prod.mk.injEq] at e
    obtain ⟨rfl, rfl⟩ := e
    exact noD
  | cells c t f => exact cl_pure fun x y e => nomatch e
  | _ => exact cl_pure fun x y e => nomatch e
theorem cl_behind {a : Addr} (h : ¬ S.D a.block) : Cl P (behindNumber a) (fun x => ¬ S.D x.1.block) := (cl_numberAt h).bind fun x hx => by
  cases x with
  | none => exact h
  | some x => exact hx x.1 x.2 rfl
theorem cl_noView {a : Addr} (h : ¬ S.D a.block) : Cl P (noView a) (fun _ => True) := (cl_viewAt h).bind fun x hx => by
  cases x
  · exact trivial
  · exact cl_unsafe
theorem cl_byteOf {a : Addr} (h : ¬ S.D a.block) : Cl P (byteOf a) (fun _ => True) := by
  unfold byteOf
  split
  · exact trivial
  · refine cl_program (cl_seq (cl_noView h) (cl_shape fun s => ?_))
    split
    · refine cl_ite (fun _ => trivial) fun _ => ?_
      split
      · exact trivial
      · exact cl_stuck
    · exact cl_stuck
end


section
variable {S : Scope} {P : Program}

theorem cl_shift {op : BinOp} {k yk : IntKind} {x y : Int} : Cl P (Op.shift op k x yk y) (Ok S) := by
  unfold Op.shift
  refine cl_ite (fun _ => cl_error) fun _ => ?_
  dsimp only
  cases op <;> first | exact cl_pure (.int _ _) | exact cl_stuck
theorem cl_intArith {op : BinOp} {k : IntKind} {x y : Int} : Cl P (Op.intArith op k x y) (Ok S) := by
  unfold Op.intArith
  cases op <;> first | exact cl_pure (.int _ _) | exact cl_stuck
theorem cl_intDiv {op : BinOp} {k : IntKind} {x y : Int} : Cl P (Op.intDiv op k x y) (Ok S) := by
  unfold Op.intDiv
  refine cl_ite (fun _ => cl_error) fun _ => ?_
  cases op <;> first | exact cl_pure (.int _ _) | exact cl_stuck
theorem cl_intBits {op : BinOp} {k : IntKind} {x y : Int} : Cl P (Op.intBits op k x y) (Ok S) := by
  unfold Op.intBits
  cases op <;> first | exact cl_pure (.int _ _) | exact cl_stuck
theorem cl_intCmp {op : BinOp} {x y : Int} : Cl P (Op.intCmp op x y) (Ok S) := by
  unfold Op.intCmp
  cases op <;> first | exact cl_pure (.bool _) | exact cl_stuck
theorem cl_stringOp {op : BinOp} {x y : ByteArray} : Cl P (Op.stringOp op x y) (Ok S) := by
  unfold Op.stringOp
  cases op <;> first | exact cl_pure (.bool _) | exact cl_stuck | exact cl_ite (fun _ => cl_limit) fun _ => cl_pure (.string _)

theorem cl_unsafeAdd {t : TypeId} {x y : Value} (hx : Ok S x) : Cl P (Builtin.unsafeAdd_ #[] t #[x, y]) (Ok S) := by
  unfold Builtin.unsafeAdd_
  cases x with
  | pointer ptr =>
    refine (cl_asInt y).bind fun n _ => ?_
    refine cl_ite (fun _ => ?_) fun _ => ?_
    · cases ptr with
      | none => exact cl_unsafe
      | some a => exact (cl_viewAt (S := S) noD).bind fun v hv => by cases v <;> first | exact trivial | exact cl_unsafe
    · refine cl_ite (fun _ => cl_seq cl_unsafe ?_) fun _ => ?_
      all_goals
        cases ptr with
        | none => exact cl_unsafe
        | some a =>
          refine cl_shape fun s => ?_
          split
          · refine cl_program ?_
            split
            · exact cl_pure (ok_pointer.2 (show ¬ S.D a.block from ok_pointer.1 hx))
            · exact cl_unsafe
          · exact cl_unsafe
  | _ => exact cl_stuck

theorem cl_asNumber {a : Addr} {b : Bool} (h : ¬ S.D a.block) : Cl P (asNumber a b) (Ok S) := fun r => trivial
theorem cl_movedNumber {t : TypeId} {x y : Value} (hx : Ok S x) : Cl P (movedNumber t x y) (Ok S) := by
  unfold movedNumber
  refine (cl_underlying t).bind fun d _ => ?_
  have h1 : Cl P (Builtin.unsafeAdd_ #[] t #[x, y]) (Ok S) := cl_unsafeAdd hx
  cases x with
  | pointer p =>
    cases p with
    | none => exact cl_ite (fun _ => cl_seq cl_unsafe h1) fun _ => h1
    | some n =>
      have key : Cl P (behindNumber n >>= fun p => Builtin.unsafeAdd_ #[] t #[.pointer (some p.1), y] >>= fun v => match v with
          | .pointer (some b) => asNumber b p.2
          | v => pure v) (Ok S) := by
        refine (cl_behind (ok_pointer.1 hx)).bind fun p hp => ?_
        refine (cl_unsafeAdd (ok_pointer.2 hp)).bind fun v hv => ?_
        split
        · exact cl_asNumber (ok_pointer.1 hv)
        · exact hv
      exact cl_ite (fun _ => cl_seq cl_unsafe key) fun _ => key
  | _ => exact cl_ite (fun _ => cl_seq cl_unsafe h1) fun _ => h1
theorem cl_movedPointer {t : TypeId} {x y : Value} (hx : Ok S x) : Cl P (movedPointer t x y) (Ok S) := by
  unfold movedPointer
  split
  · refine (cl_numberAt (ok_pointer.1 hx)).bind fun p hp => ?_
    exact cl_ite (fun _ => cl_seq cl_observed (cl_unsafeAdd hx)) fun _ => cl_unsafeAdd hx
  · exact cl_unsafeAdd hx
theorem cl_twoPlaces {a b : Addr} (ha : ¬ S.D a.block) (hb : ¬ S.D b.block) : Cl P (Op.twoPlaces a b) (fun _ => True) := by
  unfold Op.twoPlaces
  have key : Cl P (do pure (← byteOf a, ← byteOf b) : Sem (Nat × Nat)) (fun _ => True) := (cl_byteOf ha).bind fun _ _ => (cl_byteOf hb).bind fun _ _ => trivial
  refine cl_program (cl_ite (fun _ => cl_seq cl_observed key) fun _ => key)
theorem cl_addrSub {k : IntKind} {a b : Addr} (ha : ¬ S.D a.block) (hb : ¬ S.D b.block) : Cl P (Op.addrSub k a b) (Ok S) := (cl_twoPlaces ha hb).bind fun _ _ => cl_pure (.int _ _)
theorem cl_addrCmp {op : BinOp} {a b : Addr} (ha : ¬ S.D a.block) (hb : ¬ S.D b.block) : Cl P (Op.addrCmp op a b) (Ok S) := (cl_twoPlaces ha hb).bind fun _ _ => by
  cases op <;> first | exact cl_pure (.bool _) | exact cl_observed
theorem cl_addrMod {k : IntKind} {a : Addr} {n : Int} (ha : ¬ S.D a.block) : Cl P (Op.addrMod k a n) (Ok S) := by
  unfold Op.addrMod
  refine cl_shape fun s => ?_
  split
  · refine (cl_typeInfo _).bind fun i _ => ?_
    have key : Cl P (do pure (.int k ((← byteOf a) % n.toNat : Nat)) : Sem Value) (Ok S) := (cl_byteOf ha).bind fun _ _ => cl_pure (.int _ _)
    exact cl_ite (fun _ => cl_seq cl_observed key) fun _ => key
  · exact cl_observed

/-- Types whose values '==' compares as they stand. -/
def Plain (P : Program) (t : TypeId) : Prop := (∃ k, P.underlying t = some (.int k)) ∨ P.underlying t = some .bool ∨ P.underlying t = some .string ∨ ∃ e, P.underlying t = some (.slice e)

theorem cl_equal {t : TypeId} {x y : Value} (ht : Plain P t) (hx : Ok S x) (hy : Ok S y) : Cl P (Op.equal t x y) (fun _ => True) := by
  show Cl P (Op.equalIn (9999 + 1) t x y) _
  unfold Op.equalIn
  refine (cl_underlying t).bind fun d hd => ?_
  rcases ht with ⟨k, h⟩ | h | h | ⟨e, h⟩
  · rw [h] at hd; cases hd
    cases x with
    | int k a =>
      cases y with
      | int k' b => exact cl_ite (fun _ => trivial) fun _ => cl_stuck
      | pointer p =>
        cases p with
        | none => exact cl_observed
        | some p =>
          by_cases ha : a = 0
          · subst ha; exact trivial
          · dsimp only
            split <;> first | trivial | exact cl_observed | exact cl_stuck
      | _ => exact cl_stuck
    | pointer p =>
      cases p with
      | none => cases y <;> first | exact cl_observed | exact cl_stuck
      | some p =>
        cases y with
        | pointer q =>
          cases q with
          | none => exact cl_observed
          | some q =>
            refine (cl_behind (ok_pointer.1 hx)).bind fun a ha => (cl_behind (ok_pointer.1 hy)).bind fun b hb => cl_program ?_
            refine cl_ite (fun _ => (cl_byteOf ha).bind fun _ _ => (cl_byteOf hb).bind fun _ _ => trivial) fun _ => ?_
            refine (cl_typeInfo t).bind fun i _ => ?_
            split
            · exact cl_ite (fun _ => trivial) fun _ => cl_observed
            · exact cl_observed
        | int k' b =>
          dsimp only
          split <;> first | trivial | exact cl_observed | exact cl_stuck
        | _ => exact cl_observed
    | _ =>
      cases y with
      | pointer q => cases q <;> first | exact cl_observed | exact cl_stuck
      | _ => exact cl_stuck
  · rw [h] at hd; cases hd
    cases x <;> cases y <;> first | trivial | exact cl_stuck
  · rw [h] at hd; cases hd
    cases x <;> cases y <;> first | trivial | exact cl_stuck
  · rw [h] at hd; cases hd
    cases x with
    | slice a l c => cases a <;> cases y <;> first | trivial | exact cl_stuck | (rename_i a' l' c'; cases a' <;> first | trivial | exact cl_stuck)
    | _ => cases y <;> first | trivial | exact cl_stuck | (rename_i a' l' c'; cases a' <;> first | trivial | exact cl_stuck)

theorem cl_eqGuard {op : BinOp} {t : TypeId} {x y : Operand} {a b : Value} (h : (op = .eql ∨ op = .neq) → Plain P t) : Cl P (eqGuard op t x y a b) (fun _ => True) := by
  unfold eqGuard
  by_cases ho : op = .eql ∨ op = .neq
  · have ht := h ho
    have hg : Cl P (Op.eqGuardIn Op.maxDepth t a b) (fun r => r = false) := by
      show Cl P (Op.eqGuardIn (9999 + 1) t a b) _
      unfold Op.eqGuardIn
      refine (cl_underlying t).bind fun d hd => ?_
      rcases ht with ⟨k, h⟩ | h | h | ⟨e, h⟩ <;> (rw [h] at hd; cases hd; exact cl_pure rfl)
    have hgt : P.eqGuardType P.depth t = false := by
      have : P.depth = (2 * (P.types.size + Made.depth) + 1) + 1 := rfl
      rw [this, Program.eqGuardType]
      rcases ht with ⟨k, h⟩ | h | h | ⟨e, h⟩ <;> rw [h]
    rcases ho with rfl | rfl
    all_goals
      cases a with
      | nilIface =>
        cases b with
        | nilIface => exact cl_ite (fun h => nomatch h) fun _ => cl_ite (fun _ => trivial) fun _ => hg.bind fun r hr => by subst hr; trivial
        | _ => trivial
      | agg xs =>
        cases b with
        | agg ys =>
          refine cl_ite (fun h => nomatch h) fun _ => ?_
          refine cl_program (f := fun p => program >>= fun q => _) (cl_program (f := fun q => _) ?_)
          refine cl_ite (fun _ => trivial) fun hn => ?_
          rw [hgt] at hn
          exact absurd rfl hn
        | _ => trivial
      | _ => trivial
  · cases op <;> first | trivial | exact absurd (.inl rfl) ho | exact absurd (.inr rfl) ho
end


section
variable {S : Scope} {P : Program}

theorem cl_pureB {α β : Type} {a : α} {f : α → Sem β} {Φ : β → Prop} (h : Cl P (f a) Φ) : Cl P (pure a >>= f) Φ := h
theorem cl_floatArith {op : BinOp} {k : FloatKind} {x y : Nat} : Cl P (Op.floatArith op k x y) (Ok S) := by
  unfold Op.floatArith
  have key : ∀ r : Option Nat, Cl P (match r with | some r => pure (Value.float k r) | none => choose (.nanBits k x y) >>= fun n => pure (.float k n)) (Ok S) := fun r => by
    cases r
    · exact fun n => trivial
    · exact trivial
  cases op <;> first | exact key _ | exact trivial
theorem cl_floatCmp {op : BinOp} {k : FloatKind} {x y : Nat} : Cl P (Op.floatCmp op k x y) (Ok S) := by
  unfold Op.floatCmp
  cases op <;> trivial
theorem cl_floatToFloat {k k' : FloatKind} {x : Nat} : Cl P (Conv.floatToFloat k x k') (fun _ => True) := by
  unfold Conv.floatToFloat
  dsimp only
  repeat' first
    | exact trivial
    | exact fun n => trivial
    | split
theorem cl_floatToInt {k : FloatKind} {x : Nat} {k' : IntKind} : Cl P (Conv.floatToInt k x k') (Ok S) := by
  unfold Conv.floatToInt
  dsimp only
  repeat' first
    | exact trivial
    | exact fun n => trivial
    | split
theorem cl_arith {op : BinOp} {k : FloatKind} {x y : Nat} : Cl P (Op.Complex.arith op k x y) (fun _ => True) := (cl_floatArith (S := ⟨fun _ => True, 0⟩)).bind fun v _ => by cases v <;> trivial
theorem cl_cmp {op : BinOp} {k : FloatKind} {x y : Nat} : Cl P (Op.Complex.cmp op k x y) (fun _ => True) := (cl_floatCmp (S := ⟨fun _ => True, 0⟩)).bind fun v _ => cl_asBool v
theorem cl_conv {k k' : FloatKind} {x : Nat} : Cl P (Op.Complex.conv k x k') (fun _ => True) := by
  unfold Op.Complex.conv
  exact cl_ite (fun _ => trivial) fun _ => cl_floatToFloat.bind fun v _ => by cases v <;> trivial
theorem cl_product {a b c d : Nat} : Cl P (Op.Complex.product a b c d) (fun _ => True) := by
  unfold Op.Complex.product Op.Complex.mul Op.Complex.sub Op.Complex.add
  repeat' first
    | with_reducible exact cl_pure True.intro
    | (with_reducible refine Cl.bind cl_arith fun _ _ => ?_)
theorem cl_corrected {s a b c d : Nat} : Cl P (Op.Complex.corrected s a b c d) (fun _ => True) := by
  unfold Op.Complex.corrected Op.Complex.mul Op.Complex.sub Op.Complex.add
  repeat' first
    | with_reducible exact cl_pure True.intro
    | (with_reducible refine Cl.bind cl_arith fun _ _ => ?_)
theorem cl_quotient {a b c d : Nat} : Cl P (Op.Complex.quotient a b c d) (fun _ => True) := by
  unfold Op.Complex.quotient Op.Complex.mul Op.Complex.sub Op.Complex.add Op.Complex.quo
  dsimp only
  repeat' first
    | with_reducible exact cl_pure True.intro
    | with_reducible exact cl_corrected
    | (with_reducible refine Cl.bind cl_arith fun _ _ => ?_)
    | (with_reducible refine Cl.bind cl_cmp fun _ _ => ?_)
    | (with_reducible refine cl_ite (fun _ => ?_) fun _ => ?_)
    | (with_reducible refine cl_pureB ?_)
    | split
theorem cl_complexOp {op : BinOp} {k : FloatKind} {a b c d : Nat} : Cl P (Op.complexOp op k a b c d) (Ok S) := by
  unfold Op.complexOp
  cases op
  all_goals
    dsimp only
    repeat' first
      | with_reducible exact cl_stuck
      | with_reducible exact cl_pure True.intro
      | exact cl_pure (show Ok S _ from trivial)
      | (with_reducible refine Cl.bind cl_arith fun _ _ => ?_)
      | (with_reducible refine Cl.bind cl_cmp fun _ _ => ?_)
      | (with_reducible refine Cl.bind cl_conv fun _ _ => ?_)
      | (with_reducible refine Cl.bind cl_product fun _ _ => ?_)
      | (with_reducible refine Cl.bind cl_quotient fun _ _ => ?_)
      | split
theorem cl_binOp {op : BinOp} {t : TypeId} {a b : Value} (ho : (op = .eql ∨ op = .neq) → Plain P t) (ha : Ok S a) (hb : Ok S b) : Cl P (binOp op t a b) (Ok S) := by
  unfold binOp
  split
  all_goals first
    | exact cl_shift
    | exact cl_stringOp
    | exact cl_observed
    | exact cl_stuck
    | exact cl_movedNumber ha
    | exact cl_movedNumber hb
    | exact (cl_behind (ok_pointer.1 ha)).bind fun x hx => (cl_behind (ok_pointer.1 hb)).bind fun y hy => cl_addrSub hx hy
    | exact (cl_behind (ok_pointer.1 ha)).bind fun x hx => (cl_behind (ok_pointer.1 hb)).bind fun y hy => cl_addrCmp hx hy
    | exact (cl_behind (ok_pointer.1 ha)).bind fun x hx => cl_addrMod hx
    | exact (cl_behind (ok_pointer.1 hb)).bind fun x hx => cl_addrMod hx
    | (refine cl_ite (fun _ => cl_stuck) fun _ => ?_; exact cl_complexOp)
    | (refine cl_ite (fun _ => cl_stuck) fun _ => ?_; split <;> first | exact cl_floatArith | exact cl_floatCmp)
    | exact (cl_equal (ho (.inl rfl)) ha hb).bind fun r _ => cl_pure (.bool _)
    | exact (cl_equal (ho (.inr rfl)) ha hb).bind fun r _ => cl_pure (.bool _)
    | (refine cl_ite (fun _ => cl_stuck) fun _ => ?_; split <;> first | exact cl_intArith | exact cl_intDiv | exact cl_intBits | exact cl_intCmp)
    | exact (cl_underlying t).bind fun d _ => by split <;> first | exact cl_movedPointer ha | exact cl_movedNumber ha
theorem cl_unary {op : UnOp} {a : Value} (ha : Ok S a) : Cl P (Op.unary op a) (Ok S) := by
  unfold Op.unary
  split <;> first | exact cl_intArith | exact cl_intBits | exact cl_pure (.bool _) | exact cl_observed | exact cl_stuck | exact cl_pure trivial

theorem cl_intToInt {k : IntKind} {n : Int} : Cl P (Conv.intToInt k n) (Ok S) := cl_pure (.int _ _)
theorem cl_convert {s d : TypeId} {x : Value} (hs : ∃ k, P.underlying s = some (.int k)) (hd : ∃ k, P.underlying d = some (.int k)) (hx : Ok S x) : Cl P (convert s d x) (Ok S) := by
  obtain ⟨k, hs⟩ := hs
  obtain ⟨k', hd⟩ := hd
  unfold convert
  refine (cl_underlying s).bind fun a ha => (cl_underlying d).bind fun b hb => ?_
  rw [hs] at ha; rw [hd] at hb
  cases ha; cases hb
  cases x with
  | int k n => exact cl_intToInt
  | pointer p => cases p <;> first | exact cl_observed | exact cl_noEntry
  | float k n => exact cl_floatToInt
  | _ => exact cl_noEntry

theorem fill_ok {place : Nat → Option (Nat × Nat)} : ∀ (parts : List (Nat × Value)) (cells cs : Array Value), (∀ v ∈ cells, Ok S v) → (∀ p ∈ parts, Ok S p.2) → Instr.fill place cells parts = some cs → ∀ v ∈ cs, Ok S v
  | [], cells, cs, hc, _, h => by cases h; exact hc
  | (i, v) :: rest, cells, cs, hc, hp, h => by
    unfold Instr.fill at h
    split at h
    · cases h
    · split at h
      · cases h
      · refine fill_ok rest _ cs ?_ (fun p hp' => hp p (List.mem_cons_of_mem _ hp')) h
        have hv := ok_cells (hp (i, v) (List.mem_cons_self ..))
        rename_i off size _ _
        have key : ∀ (l : List (Value × Nat)) (cs : Array Value), (∀ x ∈ cs, Ok S x) → (∀ p ∈ l, Ok S p.1) → ∀ x ∈ l.foldl (fun cs (x : Value × Nat) => cs.setIfInBounds (off + x.2) x.1) cs, Ok S x := by
          intro l
          induction l with
          | nil => exact fun cs h _ => h
          | cons p l ih => exact fun cs h hl => ih _ (TmpsOk.set h (hl p (List.mem_cons_self ..)) _) fun q hq => hl q (List.mem_cons_of_mem _ hq)
        have h2 : ∀ p ∈ v.cells.zipIdx.toList, Ok S p.1 := fun p hp => by
          have h3 : p ∈ v.cells.zipIdx := Array.mem_toList_iff.1 hp
          obtain ⟨_, _, h4⟩ := Array.mem_zipIdx h3
          rw [h4]
          exact hv _ (Array.getElem_mem _)
        rw [← Array.foldl_toList]
        exact key _ cells hc h2

theorem mapM_any {α β : Type} (f : α → Sem β) (hf : ∀ a, Cl P (f a) (fun _ => True)) (xs : Array α) : Cl P (xs.mapM f) (fun _ => True) := by
  rw [Array.mapM_eq_foldlM, ← Array.foldlM_toList]
  have key : ∀ (l : List α) (bs : Array β), Cl P (l.foldlM (fun bs a => bs.push <$> f a) bs) (fun _ => True) := by
    intro l
    induction l with
    | nil => exact fun bs => trivial
    | cons x l ih =>
      intro bs
      rw [List.foldlM_cons, map_eq_pure_bind]
      exact Cl.bind ((hf x).bind (Ψ := fun _ => True) fun b _ => trivial) fun bs' _ => ih bs'
  exact key _ _

theorem cl_build {t : TypeId} {parts : Array (Nat × Value)} (hz : ZeroOk S P t) (hp : ∀ p ∈ parts, Ok S p.2) : Cl P (Instr.build t parts) (Ok S) := by
  unfold Instr.build
  refine (cl_zero hz).bind fun z hz => (cl_underlying t).bind fun d _ => ?_
  have hp' : ∀ p ∈ parts.toList, Ok S p.2 := fun p h => hp p (Array.mem_toList_iff.1 h)
  split
  · refine (mapM_any (fun f : Field => do pure (f.offset, ← sizeOf f.type)) (fun f => (cl_sizeOf f.type).bind fun _ _ => trivial) _).bind fun pl _ => ?_
    split
    · rename_i cs h; exact ok_agg.2 (fill_ok _ _ _ (ok_cells hz) hp' h)
    · exact cl_stuck
  · refine (cl_sizeOf _).bind fun n _ => ?_
    split
    · rename_i cs h; exact ok_agg.2 (fill_ok _ _ _ (ok_cells hz) hp' h)
    · exact cl_stuck
  · exact cl_stuck

theorem zeros_ok {z : Array Value} (hz : ∀ v ∈ z, Ok S v) (n : Nat) : ∀ v ∈ (Array.range n).map (z[· % z.size]!), Ok S v := by
  intro v hv
  obtain ⟨i, _, rfl⟩ := Array.mem_map.1 hv
  rw [getElem!_def]
  split
  · rename_i h; exact hz _ (Array.mem_of_getElem? h)
  · exact (.bool _ : Ok S (.bool _))

theorem cl_makeSlice {t : TypeId} {l c : Value} (hz : ∀ e, P.underlying t = some (.slice e) → ZeroOk S P e) : Cl P (Instr.makeSlice t l c) (Ok S) := by
  unfold Instr.makeSlice
  refine (cl_underlying t).bind fun d hd => ?_
  split
  · rename_i e
    refine (cl_asInt l).bind fun n _ => (cl_asInt c).bind fun m _ => (cl_typeInfo e).bind fun i _ => ?_
    dsimp only
    have key : ∀ (z : Array Value), (∀ v ∈ z, Ok S v) → ∀ n a b, Cl P (newRow e ((Array.range n).map (z[· % z.size]!)) >>= fun r => pure (.slice (some r) a b)) (Ok S) := fun z hz n a b =>
      (cl_newRow (zeros_ok hz n)).bind fun r hr => ok_slice.2 hr
    have rest : Cl P (do
        askRoom ((IntKind.i64.wrap m).toNat * i.bytes)
        let n' := (IntKind.i64.wrap m).toNat * (← sizeOf e)
        let zero ← if n' = 0 then pure #[] else do pure (← zeroValue e).cells
        let a ← newRow e ((Array.range n').map (zero[· % zero.size]!))
        pure (.slice (some a) (IntKind.i64.wrap n).toNat (IntKind.i64.wrap m).toNat) : Sem Value) (Ok S) := by
      refine cl_seq cl_askRoom ((cl_sizeOf e).bind fun s _ => ?_)
      refine cl_ite (fun _ => key #[] (by simp) _ _ _) fun _ => ?_
      exact (cl_zero (hz e hd)).bind fun z hz => key _ (ok_cells hz) _ _ _
    refine cl_ite (fun _ => ?_) fun _ => rest
    refine cl_ite (fun _ => trivial) fun _ => ?_
    refine cl_ite (fun _ => trivial) fun _ => ?_
    exact fun n => trivial
  · exact cl_stuck
end


section
variable {S : Scope} {P : Program}

theorem cl_buildSlice {t : TypeId} {n : Nat} {parts : Array (Nat × Value)} (hz : ∀ e, P.underlying t = some (.slice e) → ZeroOk S P e) (hp : ∀ p ∈ parts, Ok S p.2) : Cl P (Instr.buildSlice t n parts) (Ok S) := by
  unfold Instr.buildSlice
  refine (cl_underlying t).bind fun d hd => ?_
  have hp' : ∀ p ∈ parts.toList, Ok S p.2 := fun p h => hp p (Array.mem_toList_iff.1 h)
  split
  · rename_i e
    refine (cl_sizeOf e).bind fun size _ => ?_
    have fin : ∀ z : Array Value, (∀ v ∈ z, Ok S v) → Cl P (match Instr.fill (fun i => some (i * size, size)) ((Array.range (n * size)).map (z[· % z.size]!)) parts.toList with
        | some cells => (do pure (.slice (some (← newRow e cells)) n n) : Sem Value) | _ => stuck "buildSlice: a part of the wrong size") (Ok S) := fun z hz => by
      split
      · rename_i cs h; exact (cl_newRow (fill_ok _ _ _ (zeros_ok hz _) hp' h)).bind fun r hr => ok_slice.2 hr
      · exact cl_stuck
    have key : Cl P (do
        let zero ← if n * size = 0 then pure #[] else do pure (← zeroValue e).cells
        let some cells := Instr.fill (fun i => some (i * size, size)) ((Array.range (n * size)).map (zero[· % zero.size]!)) parts.toList
          | stuck "buildSlice: a part of the wrong size"
        pure (.slice (some (← newRow e cells)) n n) : Sem Value) (Ok S) := by
      refine cl_ite (fun _ => fin #[] (by simp)) fun _ => ?_
      exact (cl_zero (hz e hd)).bind fun z hz => fin _ (ok_cells hz)
    exact cl_ite (fun _ => cl_seq cl_limit key) fun _ => key
  · exact cl_stuck

theorem cl_sliceBound {x : Value} {y : Nat} {c : BoundsCode} : Cl P (Instr.sliceBound x y c) (fun _ => True) :=
  (cl_asIntOf x).bind fun p _ => cl_ite (fun _ => trivial) fun _ => cl_bounds
theorem cl_sliceBounds {b : Bool} {l c : Nat} {lo hi mx : Option Value} : Cl P (Instr.sliceBounds b l c lo hi mx) (fun _ => True) := by
  unfold Instr.sliceBounds
  have h3 : ∀ (m h : Nat), Cl P (do
      let l ← match lo with | some v => Instr.sliceBound v h (if mx.isSome then .slice3C else .sliceB) | none => pure 0
      pure (l, h, m) : Sem (Nat × Nat × Nat)) (fun _ => True) := fun m h => by
    cases lo with
    | none => exact trivial
    | some v => exact cl_sliceBound.bind fun _ _ => trivial
  have h2 : ∀ m : Nat, Cl P (do
      let h ← match hi, mx with
        | some v, some _ => Instr.sliceBound v m .slice3B
        | some v, none => Instr.sliceBound v m (if b then .sliceAcap else .sliceAlen)
        | none, none => pure l
        | none, some _ => stuck "Slice: max without high"
      let l ← match lo with | some v => Instr.sliceBound v h (if mx.isSome then .slice3C else .sliceB) | none => pure 0
      pure (l, h, m) : Sem (Nat × Nat × Nat)) (fun _ => True) := fun m => by
    cases hi with
    | none => cases mx with
      | none => exact h3 m l
      | some x => exact cl_stuck
    | some v => cases mx with
      | none => exact cl_sliceBound.bind fun h _ => h3 m h
      | some x => exact cl_sliceBound.bind fun h _ => h3 m h
  cases mx with
  | none => exact h2 c
  | some x => exact cl_sliceBound.bind fun m _ => h2 m

theorem ok_addS {a : Addr} {l c m : Nat} {q : Prop} [Decidable q] (h : ¬ S.D a.block) : Ok S (.slice (some (if q then a else a.add m)) l c) := ok_slice.2 (by split <;> first | exact h | (rw [add_block]; exact h))
theorem cl_slice {t : TypeId} {x : Value} {lo hi mx : Option Value} (hx : Ok S x) : Cl P (Instr.slice t x lo hi mx) (Ok S) := by
  unfold Instr.slice
  refine (cl_underlying t).bind fun d _ => ?_
  split
  · rename_i str _
    have key : Cl P (do
        let (l, h, _) ← Instr.sliceBounds false str.size str.size lo hi none
        pure (.string (str.extract l h)) : Sem Value) (Ok S) := cl_sliceBounds.bind fun _ _ => cl_pure (.string _)
    exact cl_ite (fun _ => cl_seq cl_stuck key) fun _ => key
  · rename_i e a l c _
    refine cl_sliceBounds.bind fun r _ => (cl_sizeOf e).bind fun n _ => ?_
    cases a with
    | none =>
      refine cl_pure ?_
      split <;> exact ok_nilslice
    | some a =>
      refine cl_pure ?_
      split
      · exact ok_slice.2 (ok_slice.1 hx)
      · exact ok_slice.2 (by rw [add_block]; exact ok_slice.1 hx)
  · rename_i arr _
    refine (cl_asAddr hx).bind fun a ha => (cl_underlying arr).bind fun d _ => ?_
    split
    · exact cl_sliceBounds.bind fun r _ => (cl_sizeOf _).bind fun n _ => cl_pure (ok_addS ha)
    · exact cl_stuck
  · exact cl_stuck
theorem cl_sliceAt {t : TypeId} {x : Value} {lo hi mx : Option Value} (hx : Ok S x) : Cl P (Instr.sliceAt t x lo hi mx) (Ok S) := by
  unfold Instr.sliceAt
  refine (cl_underlying t).bind fun d _ => ?_
  split
  · exact (cl_sureAddr hx).bind fun a ha => cl_sliceBounds.bind fun r _ => (cl_sizeOf _).bind fun n _ => cl_pure (ok_addS ha)
  · exact cl_slice hx

theorem cl_indexAt {t : TypeId} {x i : Value} (hx : Ok S x) : Cl P (Instr.indexAt t x i) (Ok S) := by
  unfold Instr.indexAt
  refine (cl_asIntOf i).bind fun p _ => (cl_underlying t).bind fun d _ => ?_
  have fin : ∀ (base : Option Addr) (len : Nat) (elem : TypeId), (∀ a, base = some a → ¬ S.D a.block) → Cl P (do
      let tiny := len ≤ 1 && (match ← underlying t with | .array .. => true | _ => false)
      match base with
      | some a =>
        if 0 ≤ p.2 ∧ p.2 < len then pure (.pointer (some (a.add (p.2.toNat * (← sizeOf elem)))))
        else if tiny then unsupported (.noEntry "op/indexAddr.an index out of range at an array of length 0 or 1 (ledger 616)")
        else boundsPanic p.1 p.2 len .index
      | none => boundsPanic p.1 p.2 0 .index : Sem Value) (Ok S) := fun base len elem hb => by
    refine (cl_underlying t).bind fun d _ => ?_
    cases base with
    | none => exact cl_bounds
    | some a =>
      refine cl_ite (fun _ => (cl_sizeOf elem).bind fun n _ => cl_pure (ok_pointer.2 (by rw [add_block]; exact hb a rfl))) fun _ => ?_
      exact cl_ite (fun _ => cl_noEntry) fun _ => cl_bounds
  dsimp only
  split
  · exact (cl_sureAddr hx).bind fun a ha => fin (some a) _ _ fun _ e => by cases e; exact ha
  · rename_i elem base len c _
    exact fin base len elem fun a e => by subst e; exact ok_slice.1 hx
  · exact cl_stuck
theorem cl_index {t : TypeId} {x i : Value} (hx : Ok S x) : Cl P (Instr.index t x i) (Ok S) := by
  unfold Instr.index
  refine (cl_asIntOf i).bind fun p _ => (cl_underlying t).bind fun d _ => ?_
  split
  · exact cl_ite (fun _ => (cl_sizeOf _).bind fun n _ => cl_part (ok_agg.1 hx)) fun _ => cl_bounds
  · split
    · exact cl_pure (.int _ _)
    · exact cl_bounds
  · exact cl_stuck
theorem cl_partAt {a : Addr} {c b : Nat} (h : ¬ S.D a.block) : Cl P (partAt a c b) (fun x => ¬ S.D x.block) := by
  unfold partAt
  refine (cl_byteOf h).bind fun n _ => (cl_byteOf (a := { block := a.block, off := a.off + c }) h).bind fun m _ => cl_pure ?_
  split <;> exact h
theorem cl_fieldAt {t : TypeId} {x : Value} {f : Nat} (hx : Ok S x) : Cl P (Instr.fieldAt t x f) (Ok S) := by
  unfold Instr.fieldAt
  refine (cl_underlying t).bind fun d _ => ?_
  split
  · split
    · rename_i fs _ fd _
      refine (cl_sureAddr hx).bind fun a ha => ?_
      have key : Cl P (fieldPlace a fd) (fun x => ¬ S.D x.block) := by
        unfold fieldPlace
        exact (cl_sizeOf _).bind fun n _ => cl_ite (fun _ => cl_partAt ha) fun _ => cl_pure (by rw [add_block]; exact ha)
      exact key.bind fun b hb => ok_pointer.2 hb
    · exact cl_stuck
  · exact cl_stuck
theorem cl_field {t : TypeId} {x : Value} {f : Nat} (hx : Ok S x) : Cl P (Instr.field t x f) (Ok S) := by
  unfold Instr.field
  refine (cl_underlying t).bind fun d _ => ?_
  split
  · split
    · exact (cl_asAgg hx).bind fun cs hcs => cl_part hcs
    · exact cl_stuck
  · exact cl_stuck
theorem cl_extract {x : Value} {i : Nat} (hx : Ok S x) : Cl P (Instr.extract x i) (Ok S) := by
  unfold Instr.extract
  split
  · split
    · rename_i v h; exact cl_pure (ok_tuple.1 hx v (Array.mem_of_getElem? h))
    · exact cl_stuck
  · exact cl_stuck
theorem cl_len {ts : Array TypeId} {t : TypeId} {args : Array Value} (hx : ∀ v ∈ args, Ok S v) : Cl P (Builtin.len_ ts t args) (Ok S) := by
  unfold Builtin.len_
  split
  · rename_i _ tt x h1
    have h2 : args[0]? = some x := (Prod.mk.inj h1).2
    have hok : Ok S x := hx x (Array.mem_of_getElem? h2)
    refine (cl_underlying tt).bind fun d _ => ?_
    split <;> first
      | exact cl_pure (.int _ _)
      | exact cl_stuck
      | (refine cl_getObj (S := S) noD fun o _ => ?_; cases o <;> trivial)
      | exact (cl_underlying _).bind fun d _ => by split <;> first | exact cl_pure (.int _ _) | exact cl_stuck
  · exact cl_stuck
theorem cl_lenOf (x : Value) : Cl P (Builtin.lenOf x) (fun _ => True) := by cases x <;> trivial
theorem cl_firstCells {size n : Nat} {x : Value} (hx : Ok S x) : Cl P (Builtin.firstCells size n x) (fun cs => ∀ v ∈ cs, Ok S v) := by
  cases x with
  | slice a l c =>
    cases a with
    | none => exact cl_pure (by simp)
    | some a => exact cl_loadCells (ok_slice.1 hx) _
  | string s =>
    refine cl_pure fun v hv => ?_
    obtain ⟨b, _, rfl⟩ := Array.mem_map.1 hv
    exact .int _ _
  | _ => exact cl_stuck
theorem cl_copy {ts : Array TypeId} {t : TypeId} {args : Array Value} (hx : ∀ v ∈ args, Ok S v) : Cl P (Builtin.copy_ ts t args) (Ok S) := by
  unfold Builtin.copy_
  split
  · rename_i _ dt dst src h1
    have h2 : args[0]? = some dst := (Prod.mk.inj (Prod.mk.inj h1).2).1
    have h3 : args[1]? = some src := (Prod.mk.inj (Prod.mk.inj h1).2).2
    have hd : Ok S dst := hx dst (Array.mem_of_getElem? h2)
    have hs : Ok S src := hx src (Array.mem_of_getElem? h3)
    refine (cl_underlying dt).bind fun d _ => ?_
    split
    · split
      · rename_i base dl _
        refine (cl_lenOf src).bind fun n _ => (cl_sizeOf _).bind fun sz _ => (cl_firstCells hs).bind fun cs hcs => ?_
        dsimp only
        cases base with
        | none => exact cl_pure (.int _ _)
        | some a => exact cl_seq (cl_storeCells (ok_slice.1 hd) _ 0 fun v hv => hcs v (Array.mem_toList_iff.1 hv)) (cl_pure (.int _ _))
      · exact cl_stuck
    · exact cl_stuck
  · exact cl_stuck
end

end Go.Proofs.YtiodikflmijhkaaGreatDoor.Nmo
