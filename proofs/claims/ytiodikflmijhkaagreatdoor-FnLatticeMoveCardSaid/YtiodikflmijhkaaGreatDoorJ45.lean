/- Joined texts: G18. -/
import Derived.Test.YtiodikflmijhkaaGreatDoorJ44
import Derived.Test.YtiodikflmijhkaaGreatDoorJ41
import Derived.Test.YtiodikflmijhkaaGreatDoorJ28
import Derived.Test.YtiodikflmijhkaaGreatDoorJ38
set_option linter.unusedSectionVars false
set_option linter.unusedVariables false
namespace Go.Proofs.YtiodikflmijhkaaGreatDoor
open Go Go.Conc Go.ConcN Go.RowKit Farm Vow
open Go.ConcR (KK wgBlock WgAt stA smA rd wr mk Payload Aside2 DC0)

def lL : List FuncId := [6, 7, 8, 9, 10, 11, 15, 16, 18, 19, 20, 21, 22, 23, 24, 25, 37, 38, 44, 45, 46, 47, 48, 49, 50, 51, 52, 53, 54, 68, 82, 88, 89, 90, 91, 92, 93, 94, 95, 96, 97, 109, 110, 116, 117, 118, 119, 120, 121, 122, 123, 124, 125, 126, 127, 128, 129, 130, 131, 132, 138, 139, 140, 141, 142, 143, 144, 145, 146, 149]
def gL (g : Nat) : Bool := g == 0 || g == 2 || g == 1
def fL (f : FuncId) : Bool := lL.contains f
def scL (D : Nat → Prop) : Scope := ⟨D, fun f => fL f = true, fun c => codeB Tryz.prog gL fL c = true⟩
theorem all_known : (lL.all fun f => funcB Tryz.prog gL fL f) = true := by kernel_rfl
theorem fitsL {D : Nat → Prop} (hG : ∀ g, gL g = true → ¬ D g) : Fits (scL D) Tryz.prog gL fL :=
  ⟨hG, fun f h => h, fun f h => List.all_eq_true.1 all_known f (by
    have h' : lL.contains f = true := h
    simpa using h'), fun c => Iff.rfl⟩
theorem scopeL {D : Nat → Prop} (hG : ∀ g, gL g = true → ¬ D g) : ScopeOk (scL D) Tryz.prog := scope_ok (fitsL hG)
theorem one_ok {S : Scope} {u : Value} (h : Ok S u) : ∀ x ∈ (#[u] : Array Value), Ok S x := fun x hx => by
  simp only [List.mem_toArray, List.mem_cons, List.not_mem_nil, or_false] at hx
  subst hx
  exact h
theorem two_ok {S : Scope} {u v : Value} (h1 : Ok S u) (h2 : Ok S v) : ∀ x ∈ (#[u, v] : Array Value), Ok S x := fun x hx => by
  simp only [List.mem_toArray, List.mem_cons, List.not_mem_nil, or_false] at hx
  rcases hx with rfl | rfl
  · exact h1
  · exact h2

section
variable [Payload] {P : Program} {ty : TypeId} {st : MSt} {S : Scope} {b : Frame} {a : Act} {k : List Item} {cs : List Frame} {w : World} {ops : Array Oper} {i : Nat} {rest : List Nat} {o : Oper} {Fin : Value → World → Prop}
/-- A silent stretch in the law's own phases. -/
theorem done_silent {n : Nat} {g : Goroutine} (htag : st.tag = .law) (hd : st.d = 0) (h : Goes P true (ROf ty st) DC0 (fun g w => g.status = .running ∧ Done P ty Fin st g w) n g w) : Done P ty Fin st g w :=
  done_of_goes htag hd (fun _ _ h => h.1) (goesD dm_of_dc0 h) fun _ _ h => h.2
theorem done_dm {n : Nat} {g : Goroutine} (htag : st.tag = .law) (hd : st.d = 0) (h : Goes P true (ROf ty st) (DM st) (fun g w => g.status = .running ∧ Done P ty Fin st g w) n g w) : Done P ty Fin st g w :=
  done_of_goes htag hd (fun _ _ h => h.1) h fun _ _ h => h.2
/-- What a law's phase suffers: the draws alone. -/
theorem at_rely {F : World → Prop} (hF : ∀ w d, F w → F (w.at d)) (htag : st.tag = .law) {w w₁ : World} (h : F w) (r : ROf ty st w w₁) : F w₁ := by
  obtain ⟨d, rfl⟩ := r.1 htag
  exact hF _ _ h
end
section
variable {S : Scope} {w : World}
theorem heapOk_alloc (h : HeapOk S w) {o : Obj} (ho : OkObj S o) : HeapOk S (w.alloc o) :=
  ⟨fun b hb => by have := h.low b hb; simp; omega, fun b x hx hb => by
    by_cases e : b = w.heap.size
    · subst e
      rw [heap_alloc_new] at hx
      cases hx
      exact ho
    · have hlt : b < w.heap.size := by
        have := (Array.getElem?_eq_some_iff.1 hx).1
        simp at this
        omega
      rw [Farm.heap_alloc_ne _ _ hlt] at hx
      exact h.obj b x hx hb⟩
theorem heapOk_setRow (h : HeapOk S w) {g : Nat} {cs vs : Array Value} {t : TypeId} (hg : w.heap[g]? = some (.cells cs t)) (hv : ∀ v ∈ vs, Ok S v) : HeapOk S (w.setRow g vs) := by
  have ht := turn_row (vs := vs) hg
  refine ⟨fun b hb => by rw [ht.1.2.2.2]; exact h.low b hb, fun b x hx hb => ?_⟩
  by_cases e : b = g
  · subst e
    rw [ht.2.2] at hx
    cases hx
    exact hv
  · rw [ht.2.1 b e] at hx
    exact h.obj b x hx hb
theorem heapOk_at {d : Nat} (h : HeapOk S w) : HeapOk S (w.at d) := ⟨h.low, h.obj⟩
theorem VL_ok (L : List Int) : ∀ v ∈ VL L, Ok S v := fun v hv => by
  simp only [VL, List.mem_toArray, List.mem_map] at hv
  obtain ⟨x, _, rfl⟩ := hv
  exact .int _ _
theorem below_at {B d : Nat} {w0 : World} (h : Below B w0 w) : Below B w0 (w.at d) := ⟨h.os, h.tape, h.output, h.size, h.block⟩
theorem below_tp {B : Nat} {w w1 : World} {T T' : Nat → Question → Nat} {d d' : Nat} (h : Below B (tp w T d) (tp w1 T' d')) (ht : w1.tape = w.tape) : Below B w w1 := ⟨h.os, ht, h.output, h.size, h.block⟩
end
section
variable {P : Program} {main : Bool} {b : Frame} {a : Act} {cs : List Frame} {w : World}
theorem stepG_leave2 {fn : Func} {todo : List Item} {c : Frame} {t u : Tmp} (hn : b.kind = .normal) (hd : a.defers = []) (hf : P.funcs[b.fn]? = some fn) (hr : fn.results = #[.tmp t, .tmp u]) :
    stepG P main (G { b.at a todo with mode := .returning } (c :: cs)) w = .go (G (c.finish (.tuple #[a.tmps.getD t undef, a.tmps.getD u undef])) cs) w #[] :=
  stepG_leave hn hd hf (results_tmp2 hr _ P w) (events_results_tmp2 hr _ _)
end

/-- Where a phase of the law's own stands. -/
structure PH (st : MSt) (D : Nat → Prop) (w : World) : Prop where
  tag : st.tag = .law
  d : st.d = 0
  may : ∀ b, ¬ D b → st.may b ∧ ¬ st.grp b
  mz : ∀ b, st.may b → ¬ st.zone b ∧ ¬ st.grp b
  fr : ∀ b, w.heap.size ≤ b → st.may b
  gl : ∀ b, st.grp b → b < w.heap.size
  gb : ∀ g, gL g = true → ¬ D g
theorem PH.more {st : MSt} {D : Nat → Prop} {w w' : World} (h : PH st D w) (hs : w.heap.size ≤ w'.heap.size) : PH st D w' :=
  ⟨h.tag, h.d, h.may, h.mz, fun b hb => h.fr b (by omega), fun b hb => Nat.lt_of_lt_of_le (h.gl b hb) hs, h.gb⟩
/-- A block that holds integers alone. -/
def IntRow (w : World) (b : Nat) : Prop := ∃ cs t f, w.heap[b]? = some (.cells cs t f) ∧ ∀ v ∈ cs, ∃ k n, v = .int k n
theorem IntRow.lt {w : World} {b : Nat} (h : IntRow w b) : b < w.heap.size := by
  obtain ⟨cs, t, f, h, _⟩ := h
  exact (Array.getElem?_eq_some_iff.1 h).1
theorem IntRow.below {B : Nat} {w w' : World} {b : Nat} (h : IntRow w b) (hb : Below B w w') (hB : b < B) : IntRow w' b := by
  obtain ⟨cs, t, f, h, h2⟩ := h
  exact ⟨cs, t, f, (hb.block b hB).trans h, h2⟩
theorem IntRow.VL {w : World} {b : Nat} {L : List Int} {t : TypeId} (h : w.heap[b]? = some (.cells (VL L) t)) : IntRow w b := ⟨_, _, _, h, fun v hv => by
  simp only [_root_.Go.Proofs.YtiodikflmijhkaaGreatDoor.VL, List.mem_toArray, List.mem_map] at hv
  obtain ⟨x, _, rfl⟩ := hv
  exact ⟨_, _, rfl⟩⟩
/-- All but the known blocks are forbidden. -/
def Dk (K : Nat → Prop) (n b : Nat) : Prop := b < n ∧ ¬ K b
theorem heapOk_dk {K : Nat → Prop} {w : World} (hK : ∀ b, K b → IntRow w b) : HeapOk (scL (Dk K w.heap.size)) w :=
  ⟨fun b hb => hb.1, fun b o ho hb => by
    have hlt := (Array.getElem?_eq_some_iff.1 ho).1
    have hk : K b := Classical.byContradiction fun h => hb ⟨hlt, h⟩
    obtain ⟨cs, t, f, h1, h2⟩ := hK b hk
    rw [ho] at h1
    cases h1
    intro v hv
    obtain ⟨k, n, rfl⟩ := h2 v hv
    exact .int _ _⟩

section
variable {st : MSt} {D K : Nat → Prop} {w : World} {Lv Lp : List Int} {c : Frame} {cs : List Frame} {Fin : Value → World → Prop}
/-- ████ 'moved' IN A LAW'S PHASE. ████ -/
theorem movedDone (hP : PH st D w) (hgs : st.gs + 4 < 1000) (hLv : Lv.length = 24) (hLp : Lp.length = 24) (hp : ∀ x ∈ Lp, 0 ≤ x ∧ x < 24) (hK : ∀ b, K b → ¬ D b ∧ IntRow w b) (hKg : ∀ g, gL g = true → K g)
    (hcont : ∀ st' w', PH st' (Dk K w'.heap.size) w' → HeapOk (scL (Dk K w'.heap.size)) w' → st'.gs = st.gs + 4 → (∀ b, st'.grp b → b < w.heap.size → st.grp b) → Below w.heap.size w w' → Done Tryz.prog 71 Fin st' (G (c.finish (.agg (VL (mvL Lv Lp)))) cs) w') :
    Done Tryz.prog 71 Fin st (G (b14.at ⟨#[.agg (VL Lv), .agg (VL Lp), undef, undef, undef, undef, undef, undef, undef, undef, undef, undef, undef, undef, undef, undef, undef, undef, undef, undef, undef, undef, undef, undef, undef, undef, undef, undef, undef, undef, undef, undef, undef, undef, undef, undef, undef, undef, undef], []⟩ [.code bodyM]) (c :: cs)) w := by
  obtain ⟨tag, d, wg0, bd0, gs0, grp0, may0, zone0, chs0, q0⟩ := st
  obtain ⟨h1, h2, h3, h4, h5, h6, h7⟩ := hP
  simp only at h1 h2
  subst h1 h2
  refine done_of_sc (fun st' g w' h _ _ => ?_) rfl (movedSc hLv hLp hp hgs h5 h4 h6)
  rw [h.g]
  have hb : Below w.heap.size w w' := ⟨h.os, h.tape, h.output, h.size, h.low⟩
  refine hcont st' w' ⟨h.tag, h.d, fun b hb => ?_, h.mz, fun b hb => h.may b (h5 b (Nat.le_trans h.size hb)) (.inr hb), h.grp, fun g hg hd => hd.2 (hKg g hg)⟩ (heapOk_dk fun b hb' => (hK b hb').2.below hb (hK b hb').2.lt) h.gs h.g0 hb
  by_cases hk : K b
  · have hm := h.may b (h3 b (hK b hk).1).1 (.inl (hK b hk).2.lt)
    exact ⟨hm, (h.mz b hm).2⟩
  · have hge : w'.heap.size ≤ b := Nat.le_of_not_lt fun hlt => hb ⟨hlt, hk⟩
    have hm := h.may b (h5 b (Nat.le_trans h.size hge)) (.inr hge)
    exact ⟨hm, (h.mz b hm).2⟩
end
end Go.Proofs.YtiodikflmijhkaaGreatDoor
