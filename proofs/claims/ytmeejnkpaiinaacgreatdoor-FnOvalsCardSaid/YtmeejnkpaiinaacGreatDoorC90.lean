/- The plane of a base, of the program: its lines found and sorted. -/
import Derived.Test.YtmeejnkpaiinaacGreatDoorC86
import Derived.Test.YtmeejnkpaiinaacGreatDoorM29
import Derived.Test.YtmeejnkpaiinaacGreatDoorC40
import Derived.Test.YtmeejnkpaiinaacGreatDoorC31
import Derived.Laws.Rows
import Derived.Laws.Tables
namespace Go.Proofs.YtmeejnkpaiinaacGreatDoor
open Go.RowKit Go.Shelf Go.Sort
attribute [local go_sem] Oper.semAt_some
set_option linter.unusedVariables false
attribute [local irreducible] octS cN octF syn

theorem with_permP (n : Int) (k : Nat) (hk : k = 4096) : ((octF k).filter (oC n 0)).Perm (oWith n) := by
  have e : oWith n = octS.filter (oC n 0) := by
    unfold oWith
    refine List.filter_congr fun x _ => ?_
    simp [oC, andI]
  rw [e]
  exact (octF_perm k hk).filter _
theorem less_inP {x n : Int} (hx : 0 ≤ x) (hn : 0 ≤ n) (h : andI x n = n) : lessI x n = xorI x n := by
  obtain ⟨X, rfl⟩ := Int.eq_ofNat_of_zero_le hx
  obtain ⟨N, rfl⟩ := Int.eq_ofNat_of_zero_le hn
  rw [andI_nat] at h
  have h' : X &&& N = N := by omega
  unfold lessI xorI
  simp only [Int.toNat_natCast]
  rw [h']
/-- The lines found, and 0 behind them. -/
def padP (L : List Int) : List Int := L ++ List.replicate (21 - L.length) 0
theorem padP_len (L : List Int) (h : L.length ≤ 21) : (padP L).length = 21 := by simp [padP]; omega
theorem padP_snoc (L : List Int) (x : Int) (h : L.length < 21) : (padP L).set L.length x = padP (L ++ [x]) := by
  unfold padP
  rw [show 21 - L.length = (21 - (L ++ [x]).length) + 1 by simp; omega, List.replicate_succ, List.set_append_right _ _ (Nat.le_refl _), Nat.sub_self, List.set_cons_zero]
  simp
theorem padP_all (L : List Int) (h : L.length = 21) : padP L = L := by simp [padP, h]
/-- The cells of a plane: 21 lines and the base. -/
def VP (L : List Int) (b : Int) : Array Value := (L.toArray.map (Value.int .u32)) ++ #[Value.int .u32 b]
theorem VP_size (L : List Int) (b : Int) (h : L.length = 21) : (VP L b).size = 22 := by simp [VP, h]
theorem VP_all (L : List Int) (b : Int) : (VP L b).all (·.oneCell') = true := by
  rw [Array.all_eq_true_iff_forall_mem]
  intro x hx
  simp only [VP, Array.mem_append, Array.mem_map] at hx
  rcases hx with ⟨a, _, rfl⟩ | hx
  · rfl
  · simp at hx
    rw [hx]
    rfl
theorem VP_row {W : World} {g : Nat} {t : TypeId} {L : List Int} {b : Int} : RowB W g t #[.int .u32 b] L.toArray ↔ W.heap[g]? = some (.cells (VP L b) t (0, 0)) := Iff.rfl
theorem VP_base (b : Int) : VP (List.replicate 21 0) b = #[.int .u32 0, .int .u32 0, .int .u32 0, .int .u32 0, .int .u32 0, .int .u32 0, .int .u32 0, .int .u32 0, .int .u32 0, .int .u32 0, .int .u32 0, .int .u32 0, .int .u32 0, .int .u32 0, .int .u32 0, .int .u32 0, .int .u32 0, .int .u32 0, .int .u32 0, .int .u32 0, .int .u32 0, .int .u32 b] := by simp [VP, List.replicate_succ]
theorem apart_of {L : List Int} (h : L.Nodup) : Apart 0 L.length L.toArray := by
  intro i j _ hij hj
  rw [List.Nodup, List.pairwise_iff_getElem] at h
  have := h i j (by omega) hj hij
  rw [getElem!_pos _ i (by simp; omega), getElem!_pos _ j (by simp; omega)]
  simpa using this
theorem sort_lt (L : List Int) : (L.mergeSort fun x y => !ltInt y x) = sortI L := by
  unfold sortI
  congr 1
  funext x y
  unfold ltInt
  by_cases h : x ≤ y
  · rw [decide_eq_true h, decide_eq_false (by omega)]; rfl
  · rw [decide_eq_false h, decide_eq_true (by omega)]; rfl
theorem oWith_base {B : Nat} (hB : IsBase B) : (oWith (B : Int)).length = 21 := by rw [oWith_thr]; exact thr3 B hB.1 hB.2
theorem plInfo : (Tryz.prog.info? 67).map (·.size) = some 22 := by kernel_rfl
theorem below_rowP {w V : World} {B g : Nat} (h : Below B w V) (hg : B ≤ g) (T : Array Value) : Below B w (V.setRow g T) :=
  ⟨h.os, h.tape, h.output, by rw [size_setRow]; exact h.size, fun q hq => (setRow_other V g q T (by omega)).trans (h.block q hq)⟩
/-- The memory while a plane is made. -/
def PlM (w : World) (b : Int) (L : List Int) (V : World) : Prop :=
  V.heap[w.heap.size]? = some (.cells #[.int .u32 b] 63 (0, 0)) ∧ V.heap[w.heap.size + 1]? = some (.cells (VP (List.replicate 21 0) 0) 67 (0, 0)) ∧
  V.heap[w.heap.size + 2]? = some (.cells (VP (padP L) b) 67 (0, 0)) ∧ V.heap[w.heap.size + 3]? = some (.cells #[.int .i64 ((L.length : Nat) : Int)] 3 (0, 0)) ∧ Below w.heap.size w V
theorem PlM.own {β : Type} {w : World} {b : Int} {B0 : Nat} (f : β → List Int) (hB : w.heap.size + 4 ≤ B0) : OwnFrom B0 (fun (s : β) V => PlM w b (f s) V) :=
  fun s A C row ⟨h1, h2, h3, h4, h5⟩ hg hr => by
    have hk : ∀ q, q < B0 → q < A.heap.size → C.heap[q]? = A.heap[q]? := fun q hq hq2 => hg.block q hq2 fun e => by have := (hr q e.symm).1; omega
    have ht : ∀ {q : Nat} {o : Obj}, q < B0 → A.heap[q]? = some o → C.heap[q]? = some o := fun {q o} hq ho => (hk q hq (Array.getElem?_eq_some_iff.1 ho).1).trans ho
    refine ⟨ht (by omega) h1, ht (by omega) h2, ht (by omega) h3, ht (by omega) h4, h5.trans ⟨hg.os, hg.tape, hg.output, hg.size, fun q hq => ?_⟩⟩
    exact hk q (by omega) (Nat.lt_of_lt_of_le hq h5.size)
theorem PlM.step {w V X : World} {b x : Int} {L : List Int} (h : PlM w b L V) (hl : L.length < 21) (hX : X.heap = ((V.setCell ⟨w.heap.size + 2, L.length, none⟩ (.int .u32 x)).setCell ⟨w.heap.size + 3, 0, none⟩ (.int .i64 (((L.length : Nat) : Int) + 1))).heap) (hX2 : X.os = V.os ∧ X.tape = V.tape ∧ X.output = V.output) (lw mid B C : Nat) (hlw : w.heap.size + 3 < lw) (hB0 : w.heap.size + 3 < B) :
    KeepsIn B C V X ∧ KpOf w.heap.size lw mid V X ∧ PlM w b (L ++ [x]) X := by
  obtain ⟨h1, h2, h3, h4, h5⟩ := h
  have hk : ∀ q, q ≠ w.heap.size + 2 → q ≠ w.heap.size + 3 → X.heap[q]? = V.heap[q]? := fun q a c => by
    rw [hX]
    exact (Below.heap_setCell _ ⟨w.heap.size + 3, 0, none⟩ _ q c).trans (Below.heap_setCell _ ⟨w.heap.size + 2, L.length, none⟩ _ q a)
  have hb0 : Below w.heap.size V ((V.setCell ⟨w.heap.size + 2, L.length, none⟩ (.int .u32 x)).setCell ⟨w.heap.size + 3, 0, none⟩ (.int .i64 (((L.length : Nat) : Int) + 1))) := ((Below.refl _ V).setCell (by show w.heap.size ≤ w.heap.size + 2; omega) _).setCell (by show w.heap.size ≤ w.heap.size + 3; omega) _
  have hb : Below w.heap.size V X := ⟨hX2.1, hX2.2.1, hX2.2.2, by rw [hX]; exact hb0.size, fun q hq => hk q (by omega) (by omega)⟩
  refine ⟨⟨hb.size, fun q a c => hk q (by omega) (by omega)⟩, ⟨hb, ⟨hb.size, fun q a c => hk q (by omega) (by omega)⟩⟩, (hk _ (by omega) (by omega)).trans h1, (hk _ (by omega) (by omega)).trans h2, ?_, ?_, h5.trans hb⟩
  · have hr : RowB V (w.heap.size + 2) 67 #[.int .u32 b] (padP L).toArray := h3
    have hr2 := hr.set (i := L.length) (by simp [padP_len L (by omega)]; omega) x
    rw [hX]
    refine (Below.heap_setCell _ ⟨w.heap.size + 3, 0, none⟩ _ (w.heap.size + 2) (by show w.heap.size + 2 ≠ w.heap.size + 3; omega)).trans ?_
    rw [List.setIfInBounds_toArray, padP_snoc L x hl] at hr2
    exact hr2
  · rw [hX]
    have h4' : (V.setCell ⟨w.heap.size + 2, L.length, none⟩ (.int .u32 x)).heap[w.heap.size + 3]? = some (.cells #[.int .i64 ((L.length : Nat) : Int)] 3 (0, 0)) := (Below.heap_setCell _ ⟨w.heap.size + 2, L.length, none⟩ _ (w.heap.size + 3) (by show w.heap.size + 3 ≠ w.heap.size + 2; omega)).trans h4
    have := heap_setCell_same _ (w.heap.size + 3) 0 _ 3 (.int .i64 (((L.length : Nat) : Int) + 1)) h4'
    rw [this]
    simp
def PlM3 (w : World) (b : Int) (V : World) : Prop :=
  V.heap[w.heap.size]? = some (.cells #[.int .u32 b] 63 (0, 0)) ∧ V.heap[w.heap.size + 1]? = some (.cells (VP (List.replicate 21 0) 0) 67 (0, 0)) ∧
  V.heap[w.heap.size + 2]? = some (.cells (VP (List.replicate 21 0) b) 67 (0, 0)) ∧ V.heap.size = w.heap.size + 3 ∧ Below w.heap.size w V
theorem plM3_new (w : World) (b : Int) (Z : Array Value) (hZ : Z = VP (List.replicate 21 0) 0) (ZB : Array Value) (hZB : ZB = VP (List.replicate 21 0) b) : PlM3 w b ((((w.alloc (.cells #[.int .u32 b] 63)).alloc (.cells Z 67)).alloc (.cells Z 67)).setRow (w.heap.size + 2) ZB) := by
  unfold PlM3
  rw [← hZ, ← hZB]
  clear hZ hZB
  have h0 : (((w.alloc (.cells #[.int .u32 b] 63)).alloc (.cells Z 67)).alloc (.cells Z 67)).heap.size = w.heap.size + 3 := by simp
  have h2 : (((w.alloc (.cells #[.int .u32 b] 63)).alloc (.cells Z 67)).alloc (.cells Z 67)).heap[w.heap.size + 2]? = some (.cells Z 67 (0, 0)) := by
    have := Blk.new1 (w.alloc (.cells #[.int .u32 b] 63)) (.cells Z 67) 67 Z
    rw [alloc_sz] at this
    exact this
  have h1 : (((w.alloc (.cells #[.int .u32 b] 63)).alloc (.cells Z 67)).alloc (.cells Z 67)).heap[w.heap.size + 1]? = some (.cells Z 67 (0, 0)) := (Blk.new1 w _ _ _).alloc _
  have hh0 : (((w.alloc (.cells #[.int .u32 b] 63)).alloc (.cells Z 67)).alloc (.cells Z 67)).heap[w.heap.size]? = some (.cells #[.int .u32 b] 63 (0, 0)) := ((Blk.new w _ _).alloc _).alloc _
  have hb : Below w.heap.size w (((w.alloc (.cells #[.int .u32 b] 63)).alloc (.cells Z 67)).alloc (.cells Z 67)) := (((Below.refl _ w).alloc (Nat.le_refl _) _).alloc (by simp) _).alloc (by simp; omega) _
  generalize ((w.alloc (.cells #[.int .u32 b] 63)).alloc (.cells Z 67)).alloc (.cells Z 67) = W at *
  refine ⟨?_, ?_, ?_, ?_, below_rowP hb (by omega) ZB⟩
  · rw [setRow_other _ _ _ _ (by omega)]; exact hh0
  · rw [setRow_other _ _ _ _ (by omega)]; exact h1
  · exact setRow_heap _ _ _ _ _ _ h2
  · rw [size_setRow]; exact h0
theorem plM_of3 {w V : World} {b : Int} (h : PlM3 w b V) : PlM w b [] (V.alloc (.cells #[.int .i64 0] 3)) := by
  obtain ⟨h0, h1, h2, h3, hb⟩ := h
  have hA : ∀ q, q < w.heap.size + 3 → (V.alloc (.cells #[.int .i64 0] 3)).heap[q]? = V.heap[q]? := fun q hq => Below.heap_alloc _ _ q (by omega)
  refine ⟨(hA _ (by omega)).trans h0, (hA _ (by omega)).trans h1, (hA _ (by omega)).trans h2, ?_, hb.alloc (by omega) _⟩
  have := heap_alloc_new V (.cells #[.int .i64 0] 3)
  rwa [h3] at this
theorem wpList_build1 {ops : Array Oper} {rest : List Oper} {o : Oper} {a : Act} {w : World} {Q : Exit → Act → World → Prop} (hg : o.guard = none) (t : TypeId) (j : Nat) (x : Operand) (ho : o.op = .build t #[(j, x)]) (v : Value) (hx : a.eval x = v)
    (cells : Array Value) (hf : (Tryz.prog).built t [(j, v)] = some cells) (h : wpList Tryz.prog ops Q rest (a.put o.dst (.agg cells)) w) : wpList Tryz.prog ops Q (o :: rest) a w := by
  refine wpList_build hg t #[(j, x)] ho (by simp [hx, hf]) ?_
  simpa [hx, hf] using h
theorem plBuilt (b : Int) : (Tryz.prog).built 67 [(1, .int .u32 b)] = some (VP (List.replicate 21 0) b) := by
  rw [VP_base]
  kernel_rfl
theorem octs_itP (a b : Int) (wa : IsW a) (wb : IsW b) (k n₀ : Nat) (hk : k = 4096) (w : World) (hn : n₀ ≤ w.heap.size) (hg : tab2G < n₀) (hT : Tab2 w) :
    SeqItG Tryz.prog 163 #[.pointer (some ⟨w.heap.size, 0, none⟩), .pointer (some ⟨w.heap.size + 1, 0, none⟩)] (encO (a := a) (b := b)) 10 (KpOf n₀ w.heap.size (w.heap.size + 2)) (fun ys => ys.map (fun x => x.val) = (octF k).filter (oC a b)) (fun _ => True) (OcAt a b) (owW a b w) := by
  have hs := owW_size a b w
  have hc := owW_cells a b w
  have hb := owW_below a b w
  have hT2 := hT.below hb hT.lt
  generalize owW a b w = W at *
  exact octads_itG a b wa wb k n₀ w.heap.size (w.heap.size + 2) w.heap.size (w.heap.size + 1) hk W (by omega) (by omega) (Nat.le_refl _) (by omega) (by omega) (by omega) (by omega) (by omega) hg hc.1 hc.2 hT2
set_option maxRecDepth 100000 in
set_option maxHeartbeats 4000000 in
theorem plane_in (B : Nat) (hB : IsBase B) (k : Nat) (hk : k = 4096) (w : World) (hT : Tab2 w) :
    CallsIn Fence.wide 6 Tryz.prog 107 #[.int .u32 (B : Int)] w fun e w' => e = .returned (.agg (VP (lns (B : Int)) (B : Int))) ∧ Below w.heap.size w w' := by
  have HZ := Lib.hid (VP_base 0)
  have HBL := Lib.hid (plBuilt (B : Int))
  obtain ⟨ZB, hZB⟩ : ∃ ZB, ZB = VP (List.replicate 21 0) (B : Int) := ⟨_, rfl⟩
  rw [← hZB] at HBL
  have HALL := Lib.hid (show ZB.all (·.oneCell') = true by rw [hZB]; exact VP_all _ _)
  have hsz0 : ZB.size = 22 := by rw [hZB]; exact VP_size _ _ (by simp)
  have HSB := Lib.hid hsz0
  have HIB := Lib.hid (show (Tryz.prog.info? 67).map (·.size) = some ZB.size by rw [hsz0]; exact plInfo)
  have HG := Lib.hid (fun (Z : Array Value) => show (((w.alloc (.cells #[.int .u32 (B : Int)] 63)).alloc (.cells Z 67)).alloc (.cells Z 67)).heap[w.heap.size + 2]? = some (.cells Z 67 (0, 0)) from (by
    have := Blk.new1 (w.alloc (.cells #[.int .u32 (B : Int)] 63)) (.cells Z 67) 67 Z
    rw [alloc_sz] at this
    exact this))
  have HZB := Lib.hid hZB
  clear hZB hsz0
  refine callsIn_of_wp_marks Tryz.func107 rfl trivial ?_ rfl
  simp only [Tryz.ntmps107, List.size_toArray, List.length_cons, List.length_nil, Nat.reduceAdd, Nat.reduceSub, Array.replicate_succ, Array.replicate_zero, List.push_toArray, List.append_toArray, List.nil_append, List.cons_append]
  refine wpIn_wide.2 ?_
  go_wp2_with (first
    | (refine wpList_build1 rfl 67 1 (.tmp 6) rfl _ rfl ZB HBL.out ?_)
    | (refine wpList_store_row rfl 67 _ _ rfl (w.heap.size + 2) ZB rfl rfl 67 _ (HG.out _) HIB.out (by rw [HSB.out]; rfl) HALL.out ?_; have h3 := plM3_new w (B : Int) _ HZ.out.symm ZB HZB.out; generalize ((((w.alloc (.cells #[.int .u32 (B : Int)] 63)).alloc (.cells #[.int .u32 0, .int .u32 0, .int .u32 0, .int .u32 0, .int .u32 0, .int .u32 0, .int .u32 0, .int .u32 0, .int .u32 0, .int .u32 0, .int .u32 0, .int .u32 0, .int .u32 0, .int .u32 0, .int .u32 0, .int .u32 0, .int .u32 0, .int .u32 0, .int .u32 0, .int .u32 0, .int .u32 0, .int .u32 0] 67)).alloc (.cells #[.int .u32 0, .int .u32 0, .int .u32 0, .int .u32 0, .int .u32 0, .int .u32 0, .int .u32 0, .int .u32 0, .int .u32 0, .int .u32 0, .int .u32 0, .int .u32 0, .int .u32 0, .int .u32 0, .int .u32 0, .int .u32 0, .int .u32 0, .int .u32 0, .int .u32 0, .int .u32 0, .int .u32 0, .int .u32 0] 67)).setRow (w.heap.size + 2) ZB) = W3 at *; have H3 := Lib.hid h3; have hsz3 := h3.2.2.2.1; have hc0 : W3.cell? ⟨w.heap.size, 0, none⟩ = some (.int .u32 (B : Int)) := Boxed.cell (t := 63) h3.1; have hc0a : ∀ o, (W3.alloc o).cell? ⟨w.heap.size, 0, none⟩ = some (.int .u32 (B : Int)) := (fun o => (World.cell?_alloc_lt W3 o ⟨w.heap.size, 0, none⟩ (by show w.heap.size < W3.heap.size; omega)).trans hc0); clear h3))
  refine (octadsWith_calls _ _ _).mono ?_
  rintro e w' ⟨rfl, rfl⟩
  clear HBL HALL HSB HIB HG HZ HZB
  have hM := plM_of3 H3.out
  have hsz : (W3.alloc (.cells #[.int .i64 0] 3)).heap.size = w.heap.size + 4 := by rw [World.size_alloc, hsz3]
  generalize W3.alloc (.cells #[.int .i64 0] 3) = w2 at *
  rw [hsz]
  clear H3 hsz3 hc0 hc0a
  have wB : IsW (B : Int) := ⟨by omega, by have := hB.1; omega⟩
  have w00 : IsW 0 := ⟨by omega, by omega⟩
  have hT2 : Tab2 w2 := hT.below hM.2.2.2.2 hT.lt
  have hs4 := owW_size (B : Int) 0 w2
  have hcb := owW_below (B : Int) 0 w2
  have hit := octs_itP (B : Int) 0 wB w00 k w.heap.size hk w2 (by omega) hT.lt hT2
  rw [hsz] at hit hs4
  have hM4 : PlM w (B : Int) (([] : List (Oc (B : Int) 0)).map fun x => xorI x.val (B : Int)) (owW (B : Int) 0 w2) := by
    obtain ⟨h1, h2, h3, h4, h5⟩ := hM
    exact ⟨(hcb.block _ (by omega)).trans h1, (hcb.block _ (by omega)).trans h2, (hcb.block _ (by omega)).trans h3, (hcb.block _ (by omega)).trans h4, h5.trans (hcb.mono h5.size)⟩
  clear hM hcb hT2
  generalize owW (B : Int) 0 w2 = w4 at *
  have HM4 := Lib.hid hM4
  have HIT := Lib.hid hit
  have HS4 := Lib.hid hs4
  clear hM4 hit hs4 hsz
  go_wp2_with fail
  refine (wpIn_wide (n := 6)).1 ?_
  have hit := HIT.out
  have hs4 := HS4.out
  have hM4 := HM4.out
  clear HIT HM4 HS4
  have HP := Lib.hid (with_permP (B : Int) k hk)
  have HL21 := Lib.hid (oWith_base hB)
  refine wp_range_it (gf := 163) (lb := #[.pointer (some ⟨w.heap.size + 4, 0, none⟩), .pointer (some ⟨w.heap.size + 4 + 1, 0, none⟩)]) rfl (enters_of Tryz.func163 (by kernel_rfl) rfl) hit (fun h k => KpOf.trans h k) (fun V j o hj hjl => KpOf.put V j o (by omega) (by omega) hjl) (Below.refl _ _) (fun _ => rfl)
    (fun (pre : List (Oc (B : Int) 0)) V => PlM w (B : Int) (pre.map fun x => xorI x.val (B : Int)) V)
    (fun _ _ _ => False)
    (PlM.own (fun (pre : List (Oc (B : Int) 0)) => pre.map fun x => xorI x.val (B : Int)) (by omega))
    (fun _ _ _ _ _ hs _ _ => hs)
    hM4
    (fun x => { tmps := #[.int .u32 (B : Int), .pointer (some ⟨w.heap.size, 0, none⟩), .pointer (some ⟨w.heap.size + 1, 0, none⟩), .pointer (some ⟨w.heap.size + 1 + 1, 0, none⟩), .pointer (some ⟨w.heap.size + 1 + 1 + 1, 0, none⟩), .int .u32 x.val, .int .u32 (B : Int), .agg ZB, .int .u32 (B : Int), .func (.func 163) #[] #[.pointer (some ⟨w.heap.size + 4, 0, none⟩), .pointer (some ⟨w.heap.size + 4 + 1, 0, none⟩)], .int .u32 x.val, undef, undef, undef, undef, undef, undef, undef, undef, undef, undef, undef, undef], defers := [] }) ?assign ?body ?done ?stop
  case assign =>
    intro l x V K hK
    unfold encO
    gi_wp2
    first
      | exact hK
      | (go_simp; exact hK)
  case body =>
    rintro l pre x V hM hat hsK
    have hmx : Tryz.prog.follows .mixedOrders = true := by kernel_rfl
    have hd : 1 ≤ 6 - 1 - 1 := by omega
    have hx := x.property.1
    have wx : IsW x.val := hx.rng
    have hsub : andI x.val (B : Int) = (B : Int) := by have := x.property.2; simp [oC] at this; exact this.1
    have hle := (hat.sub k hk).length_le
    rw [HP.out.length_eq, HL21.out, List.length_map, List.length_append, List.length_singleton] at hle
    have HFIN := Lib.hid (show ∀ X : World, _ → _ → _ from fun X hX hX2 => PlM.step (X := X) hM (x := xorI x.val (B : Int)) (by rw [List.length_map]; omega) hX hX2 (w.heap.size + 4) (w.heap.size + 6) w4.heap.size (w4.heap.size + 2 + 10) (by omega) (by omega))
    have HMP := Lib.hid (show ((pre ++ [x]).map fun x => xorI x.val (B : Int)) = (pre.map fun x => xorI x.val (B : Int)) ++ [xorI x.val (B : Int)] by simp)
    have hll : (pre.map fun x => xorI x.val (B : Int)).length = pre.length := by rw [List.length_map]
    have hc0 : V.cell? ⟨w.heap.size, 0, none⟩ = some (.int .u32 (B : Int)) := Boxed.cell (t := 63) hM.1
    have hc3 : V.cell? ⟨w.heap.size + 3, 0, none⟩ = some (.int .i64 (((pre.map fun x => xorI x.val (B : Int)).length : Nat) : Int)) := Boxed.cell (t := 3) hM.2.2.2.1
    have hf3 : V.frozen? ⟨w.heap.size + 3, 0, none⟩ = false := Lib.frozen_of_heap hM.2.2.2.1 _
    have hf2 : V.frozen? ⟨w.heap.size + 2, pre.length, none⟩ = false := Lib.frozen_of_heap hM.2.2.1 _
    have hr : RowB V (w.heap.size + 2) 67 #[.int .u32 (B : Int)] (padP (pre.map fun x => xorI x.val (B : Int))).toArray := hM.2.2.1
    have hc2 := hr.cell (i := pre.length) (by simp [padP_len (pre.map fun x => xorI x.val (B : Int)) (by rw [hll]; omega)]; omega)
    rw [hll] at hc3 HFIN
    generalize (padP (pre.map fun x => xorI x.val (B : Int))).toArray[pre.length]! = z at *
    have hq6 : pre.length < 21 := by omega
    have HL := Lib.hid (less_inP wx.1 wB.1 hsub)
    clear hM hr hll hit hM4 hat hx hsub hle
    generalize (pre.map fun x => xorI x.val (B : Int)) = L at *
    generalize pre.length = q at *
    generalize xorI x.val (B : Int) = y at *
    generalize x.val = xv at *
    have hq0 : (0 : Int) ≤ (q : Int) := by omega
    have hq1 : (q : Int) < 21 := by omega
    gi_wp2_with fail
    gi_region_with_o (first
      | (refine ⟨trivial, ?_⟩; refine (CallsIn.inRound l (callsIn_wide.2 (word_less _ _ _ wx.1 wx.2 wB.1 wB.2))).mono ?_; rintro e w' ⟨he, rfl⟩; rw [HL.out] at he; subst he))
    all_goals gi_wp2
    all_goals
      simp only [postIt]
      rw [HMP.out]
      exact HFIN.out _ rfl ⟨rfl, rfl, rfl⟩
  case done =>
    rintro D ys V hD hS hM hK
    have hperm : (ys.map fun x => xorI x.val (B : Int)).Perm ((oWith (B : Int)).map fun x => xorI x (B : Int)) := by
      have e : (ys.map fun x => xorI x.val (B : Int)) = (ys.map fun x => x.val).map fun x => xorI x (B : Int) := by rw [List.map_map]; rfl
      rw [e, hS]
      exact HP.out.map _
    have hso : sortI (ys.map fun x => xorI x.val (B : Int)) = lns (B : Int) := by
      unfold lns
      exact sortI_congr hperm
    have hl : (ys.map fun x => xorI x.val (B : Int)).length = 21 := by rw [hperm.length_eq, List.length_map, HL21.out]
    have hnd : (ys.map fun x => xorI x.val (B : Int)).Nodup := by
      have := lns_nodup hB
      rw [← hso] at this
      exact (sortI_perm _).nodup_iff.1 this
    clear hperm hS
    generalize (ys.map fun x => xorI x.val (B : Int)) = L at *
    have hR : RowB V (w.heap.size + 2) 67 #[.int .u32 (B : Int)] L.toArray := by
      have := hM.2.2.1
      rw [padP_all L hl] at this
      exact this
    have HSORT := wSort (w.heap.size + 2) 21 21 67 #[.int .u32 (B : Int)] L.toArray V (by omega) (by omega) (by simp [hl]) hR (by have := apart_of hnd; rwa [hl] at this)
    rw [show L.toArray.toList = L from rfl, sort_lt, hso] at HSORT
    have HROW : ∀ W : World, RowB W (w.heap.size + 2) 67 #[.int .u32 (B : Int)] (lns (B : Int)).toArray → W.heap[w.heap.size + 2]? = some (.cells (VP (lns (B : Int)) (B : Int)) 67 (0, 0)) := fun W h => h
    have HSZ := Lib.hid (VP_size (lns (B : Int)) (B : Int) (lns_len hB))
    have HALL := Lib.hid (VP_all (lns (B : Int)) (B : Int))
    have HSZ0 := Lib.hid (VP_size (List.replicate 21 0) 0 (by simp))
    generalize hTE : VP (lns (B : Int)) (B : Int) = T at *
    have HTE := Lib.hid hTE
    clear hTE
    have HI := Lib.hid (show (Tryz.prog.info? 67).map (·.size) = some T.size by rw [HSZ.out]; exact plInfo)
    have HROW := Lib.hid HROW
    have HB := Lib.hid hM.2.2.2.2
    have HK := Lib.hid hK
    have H1 := Lib.hid hM.2.1
    generalize VP (List.replicate 21 0) 0 = Z0 at *
    have hV2 := hR.lt
    have hDV : D < V.heap.size := (Array.getElem?_eq_some_iff.1 hK).1
    have HSORT := Lib.hid HSORT
    clear hM hK hR hso hl hnd hit hM4
    go_wp2_with fail
    refine HSORT.out.mono ?_
    rintro e V2 ⟨rfl, hR2, hT2⟩
    have Q2 := HROW.out V2 hR2
    have Q1 := (hT2.block (w.heap.size + 1) (by omega) (by simp)).trans H1.out
    have hK2 : V2.heap[D]? = some (.deferred (some [])) := (hT2.block D hDV (by simp; omega)).trans HK.out
    have HB2 := Lib.hid (HB.out.trans ((Below.refl _ _).grown hT2 HB.out.size (fun q e => by cases e; omega)))
    have HK2 := Lib.hid hK2
    clear hR2 hT2 hK2
    have HQ2 := Lib.hid Q2
    have HQ1 := Lib.hid Q1
    clear Q1 Q2
    go_wp2_with (first
      | (refine wpList_load_row rfl 67 _ rfl (w.heap.size + 2) rfl 67 T (0, 0) _ HQ2.out Tryz.underlying67 rfl HI.out ?_)
      | (refine wpList_store_row rfl 67 _ _ rfl (w.heap.size + 1) T rfl rfl 67 Z0 HQ1.out HI.out (by rw [HSZ.out, HSZ0.out]) HALL.out ?_))
    have HK3 := (setRow_other V2 (w.heap.size + 1) D T (by omega)).trans HK2.out
    refine ⟨by simp, .inl ⟨_, _, rfl, run_takeDeferred HK3, ?_⟩⟩
    exact ⟨_, results_c rfl rfl ((World.putObj_heap_other (by omega)).trans (setRow_heap _ _ _ _ _ _ HQ1.out) : Blk _ _ _ _) Tryz.underlying67 rfl HI.out, by rw [HTE.out], (below_rowP HB2.out (by omega) T).trans (belowK_b (w := w) (Nat.le_refl _) (V2.setRow (w.heap.size + 1) T) D _ _ (by omega) HK3 rfl rfl)⟩
  case stop =>
    rintro D c pre V _ _ h _
    exact h.elim
end Go.Proofs.YtmeejnkpaiinaacGreatDoor
