/- Octads of the program: counted, met, dodecads. -/
import Derived.Test.YtiinekoepoonfaaDoorC40
import Derived.Test.YtiinekoepoonfaaDoorC31
import Derived.Sort.BigQuietIn
namespace Go.Proofs.YtiinekoepoonfaaDoor
open Go.RowKit Go.Shelf
attribute [local go_sem] Oper.semAt_some
set_option linter.unusedVariables false
attribute [local irreducible] octS cN octF

theorem set_fin {V X : World} {p : Addr} {u : Value} {n₀ : Nat} (hn : n₀ ≤ p.block) (hX : X.heap = (V.setCell p u).heap) (hX2 : X.os = V.os ∧ X.tape = V.tape ∧ X.output = V.output) :
    Below n₀ V X ∧ ∀ q, q ≠ p.block → X.heap[q]? = V.heap[q]? := by
  have b0 : Below n₀ V (V.setCell p u) := (Below.refl _ V).setCell hn _
  exact ⟨⟨hX2.1, hX2.2.1, hX2.2.2, by rw [hX]; exact b0.size, fun q hq => by rw [hX]; exact b0.block q hq⟩, fun q hq => by rw [hX]; exact Below.heap_setCell V p _ q hq⟩
theorem set_kp {V X : World} {p : Addr} {u : Value} {n₀ lw mid B C : Nat} (hn : n₀ ≤ p.block) (h1 : p.block < lw) (h2 : p.block < B) (hX : X.heap = (V.setCell p u).heap) (hX2 : X.os = V.os ∧ X.tape = V.tape ∧ X.output = V.output) :
    KeepsIn B C V X ∧ KpOf n₀ lw mid V X := by
  obtain ⟨b, hk⟩ := set_fin hn hX hX2
  exact ⟨⟨b.size, fun q h3 h4 => hk q (by omega)⟩, b, ⟨b.size, fun q h3 h4 => hk q (by omega)⟩⟩
theorem set_box {V X : World} {g : Nat} {u v : Value} {t : TypeId} (h : V.heap[g]? = some (.cells #[u] t (0, 0))) (hX : X.heap = (V.setCell ⟨g, 0, none⟩ v).heap) : X.heap[g]? = some (.cells #[v] t (0, 0)) := by
  rw [hX]
  have := heap_setCell_same V g 0 #[u] t v h
  simpa using this
theorem own_arr9 {w : World} {B g : Nat} (xs : List Int) (hl : xs.length = 9) (hg : w.heap[g]? = some (.cells (vals .i64 xs).toArray 3 (0, 0))) (hB : B ≤ g) : Own w B (.slice (some ⟨g, 0, none⟩) 9 9) xs :=
  ⟨by simp [vals_len, hl], .inr ⟨g, 9, _, by rw [hl], hB, hg, by simp [hl], by unfold maxLen; omega, by simp [vals_len, hl], by
    have : (vals .i64 xs).length ≤ xs.length * 1 := by rw [vals_len]; omega
    simp [List.take_of_length_le, vals_len]⟩⟩
theorem filter_00 (L : List Int) : L.filter (oC 0 0) = L := by
  rw [List.filter_eq_self]
  intro x _
  simp [oC, andI]
theorem octs_it (a b : Int) (wa : IsW a) (wb : IsW b) (k n₀ : Nat) (hk : k = 4096) (w : World) (hn : n₀ ≤ w.heap.size) (hg : tab2G < n₀) (hT : Tab2 w) :
    SeqIt Tryd.prog 55 #[.pointer (some ⟨w.heap.size, 0, none⟩), .pointer (some ⟨w.heap.size + 1, 0, none⟩)] (encO (a := a) (b := b)) 10 (KpOf n₀ w.heap.size (w.heap.size + 2)) (fun ys => ys.map (fun x => x.val) = (octF k).filter (oC a b)) (fun _ => True) 4096 (owW a b w) := by
  have hs := owW_size a b w
  have hc := owW_cells a b w
  have hb := owW_below a b w
  have hT2 := hT.below hb hT.lt
  generalize owW a b w = W at *
  exact octads_it a b wa wb k n₀ w.heap.size (w.heap.size + 2) w.heap.size (w.heap.size + 1) hk W (by omega) (by omega) (Nat.le_refl _) (by omega) (by omega) (by omega) (by omega) (by omega) hg hc.1 hc.2 hT2
set_option maxRecDepth 100000 in
set_option maxHeartbeats 600000 in
theorem iOctadCount_in (a b : Int) (wa : IsW a) (wb : IsW b) (k : Nat) (hk : k = 4096) (N : Int) (HN : Hid (N = (((octF k).countP (oC a b) : Nat) : Int))) (w : World) (hT : Tab2 w) :
    CallsIn Fence.wide 6 Tryd.prog 11 #[.int .i64 a, .int .i64 b] w fun e w' => e = .returned (.tuple #[.int .i64 N, .bool true]) ∧ Below w.heap.size w w' := by
  refine callsIn_of_wp_marks Tryd.func11 rfl trivial ?_ rfl
  simp only [Tryd.ntmps11, List.size_toArray, List.length_cons, List.length_nil, Nat.reduceAdd, Nat.reduceSub, Array.replicate_succ, Array.replicate_zero, List.push_toArray, List.append_toArray, List.nil_append, List.cons_append]
  gi_wp2_with fail
  refine ⟨trivial, ?_⟩
  refine (callsIn_wide.2 (wordFrom_ok a _ wa.1 wa.2)).mono ?_
  rintro e w' ⟨rfl, rfl⟩
  gi_wp2_with fail
  refine ⟨trivial, ?_⟩
  refine (callsIn_wide.2 (wordFrom_ok b _ wb.1 wb.2)).mono ?_
  rintro e w' ⟨rfl, rfl⟩
  gi_wp2_with fail
  refine ⟨trivial, ?_⟩
  refine (callsIn_wide.2 (octadsWith_calls _ _ _)).mono ?_
  rintro e w' ⟨rfl, rfl⟩
  gi_wp2_with fail
  have hsz : (w.alloc (.cells #[.int .i64 0] 3)).heap.size = w.heap.size + 1 := by simp
  have hb2 : Below w.heap.size w (w.alloc (.cells #[.int .i64 0] 3)) := (Below.refl _ w).alloc (Nat.le_refl _) _
  have hX : (w.alloc (.cells #[.int .i64 0] 3)).heap[w.heap.size]? = some (.cells #[.int .i64 0] 3 (0, 0)) := World.alloc_heap_new _ _
  generalize w.alloc (.cells #[.int .i64 0] 3) = w2 at *
  have hT2 : Tab2 w2 := hT.below hb2 hT.lt
  have hs4 := owW_size a b w2
  have hcb := owW_below a b w2
  have hit := octs_it a b wa wb k w.heap.size hk w2 (by omega) hT.lt hT2
  rw [hsz] at hit hs4
  have hX4 := (hcb.block w.heap.size (by omega)).trans hX
  have hB4 : Below w.heap.size w (owW a b w2) := hb2.trans (hcb.mono hb2.size)
  clear hX hb2 hcb
  generalize owW a b w2 = w4 at *
  refine wp_range_it (gf := 55) (lb := #[.pointer (some ⟨w.heap.size + 1, 0, none⟩), .pointer (some ⟨w.heap.size + 1 + 1, 0, none⟩)]) rfl (enters_of Tryd.func55 (by kernel_rfl) rfl) hit (fun h k => KpOf.trans h k) (fun V j o hj hjl => KpOf.put V j o (by omega) (by omega) hjl) (Below.refl _ _) (fun _ => rfl)
    (fun (pre : List (Oc a b)) V => V.heap[w.heap.size]? = some (.cells #[.int .i64 (pre.length : Nat)] 3 (0, 0)) ∧ Below w.heap.size w V)
    (fun _ _ _ => False)
    ((ownFrom_at (fun (pre : List (Oc a b)) => .cells #[.int .i64 (pre.length : Nat)] 3 (0, 0)) (by omega)).and (ownFrom_below (Nat.le_refl _) (by omega)))
    (fun _ _ _ _ _ hs _ _ => hs)
    ⟨hX4, hB4⟩
    (fun x => { tmps := #[.int .i64 a, .int .i64 b, undef, undef, .int .i64 0, .bool false, .int .u32 a, .bool true, .int .u32 b, .pointer (some ⟨w.heap.size, 0, none⟩), .tuple #[.int .u32 a, .bool true], .int .i64 a, .tuple #[.int .u32 a, .bool true], .int .u32 a, .bool true, .bool true, .bool false, .tuple #[.int .u32 b, .bool true], .int .i64 b, .tuple #[.int .u32 b, .bool true], .int .u32 b, .bool true, .bool true, .bool false, .int .u32 a, .int .u32 b, .func (.func 55) #[] #[.pointer (some ⟨w.heap.size + 1, 0, none⟩), .pointer (some ⟨w.heap.size + 1 + 1, 0, none⟩)], .int .u32 x.val, undef, undef, undef], defers := [] }) ?assign ?body ?done ?stop
  case assign =>
    intro l x V K hK
    unfold encO
    gi_wp2
    go_simp
    exact hK
  case body =>
    rintro l pre x V ⟨h1, hB⟩ hlen hsK
    have hc1 : V.cell? ⟨w.heap.size, 0, none⟩ = some (.int .i64 (pre.length : Nat)) := Boxed.cell (t := 3) h1
    have hf1 : V.frozen? ⟨w.heap.size, 0, none⟩ = false := Lib.frozen_of_heap h1 _
    have hln : ((pre ++ [x]).length : Int) = (pre.length : Int) + 1 := by simp
    have HB := Lib.hid hB
    have H1 := Lib.hid h1
    have HLN := Lib.hid hln
    clear h1 hB hln hit hB4 hX4
    generalize pre.length = q at *
    have hq0 : (0 : Int) ≤ (q : Int) := by omega
    have hq1 : (q : Int) < 4096 := by omega
    gi_wp2
    have hkp := set_kp (V := V) (X := V.setCell ⟨w.heap.size, 0, none⟩ (.int .i64 ((q : Int) + 1))) (n₀ := w.heap.size) (lw := w.heap.size + 1) (mid := w.heap.size + 3) (B := w4.heap.size) (C := w4.heap.size + 2 + 10) (p := ⟨w.heap.size, 0, none⟩) (Nat.le_refl _) (by show w.heap.size < _; omega) (by show w.heap.size < _; omega) rfl ⟨rfl, rfl, rfl⟩
    refine ⟨hkp.1, hkp.2, ?_, HB.out.trans hkp.2.1⟩
    have := set_box (v := .int .i64 ((q : Int) + 1)) (X := V.setCell ⟨w.heap.size, 0, none⟩ (.int .i64 ((q : Int) + 1))) H1.out rfl
    rw [HLN.out]
    exact this
  case done =>
    rintro D ys V hD hS ⟨h1, hB⟩ hK
    have hc2 : V.cell? ⟨w.heap.size, 0, none⟩ = some (.int .i64 (ys.length : Nat)) := Boxed.cell (t := 3) h1
    have hl : (ys.length : Int) = N := by
      rw [HN.out, List.countP_eq_length_filter, ← hS, List.length_map]
    rw [hl] at hc2
    have HB := Lib.hid hB
    clear h1 hB hl hS hit hB4 hX4
    gi_wp2
    refine ⟨by simp, .inl ⟨_, _, rfl, run_takeDeferred hK, ?_⟩⟩
    exact ⟨_, results_tmp2 rfl _ _ _, rfl, HB.out.trans (belowK_b (w := w) (Nat.le_refl _) V D _ _ (by omega) hK rfl rfl)⟩
  case stop =>
    rintro D c pre V _ _ h _
    exact h.elim
theorem iOctadCount_calls (a b : Int) (w : World) (hT : Tab2 w) :
    Calls Tryd.prog 11 #[.int .i64 a, .int .i64 b] w fun e w' => e = .returned (.tuple #[.int .i64 (oCount a b).1, .bool (oCount a b).2]) ∧ Below w.heap.size w w' := by
  rcases ha : wordB a with _ | _
  · have hn := (wordB_no a).1 ha
    rw [show oCount a b = (0, false) by simp [oCount, ha]]
    clear ha
    go_enter Tryd.func11, Tryd.ntmps11
    go_wp2_with (go_at_call 34; refine (wordFrom_no _ _ hn).mono ?_; rintro e w' ⟨rfl, rfl⟩)
    go_ret2
    exact ⟨rfl, Below.refl _ _⟩
  have wa : IsW a := (wordB_iff a).1 ha
  rcases hb : wordB b with _ | _
  · have hn := (wordB_no b).1 hb
    rw [show oCount a b = (0, false) by simp [oCount, hb]]
    clear ha hb
    go_enter Tryd.func11, Tryd.ntmps11
    go_wp2_with fail
    refine (wordFrom_ok a _ wa.1 wa.2).mono ?_
    rintro e w' ⟨rfl, rfl⟩
    go_wp2_with fail
    refine (wordFrom_no b _ hn).mono ?_
    rintro e w' ⟨rfl, rfl⟩
    go_wp2_with fail
    go_ret2
    exact ⟨rfl, Below.refl _ _⟩
  have wb : IsW b := (wordB_iff b).1 hb
  obtain ⟨k, hk⟩ : ∃ k, k = 4096 := ⟨_, rfl⟩
  have hN : (oCount a b) = ((((octF k).countP (oC a b) : Nat) : Int), true) := by rw [(octF_perm k hk).countP_eq]; simp [oCount, ha, hb]
  rw [hN]
  exact callsIn_wide.1 (iOctadCount_in a b wa wb k hk _ (Lib.hid rfl) w hT)
theorem meets_fin {w V : World} {j : Nat} {cs Z : List Int} {y : Int} {bx by_ : Obj} (h0 : V.heap[w.heap.size]? = some bx) (h1 : V.heap[w.heap.size + 1]? = some (.cells (vals .i64 cs).toArray 3 (0, 0))) (h2 : V.heap[w.heap.size + 2]? = some by_) (hB : Below w.heap.size w V) (hZ : cs.set j y = Z) (lw mid B K : Nat) (hlw : w.heap.size + 1 < lw) (hB0 : w.heap.size + 1 < B) (X : World)
    (hX : X.heap = (V.setCell ⟨w.heap.size + 1, j, none⟩ (.int .i64 y)).heap) (hX2 : X.os = V.os ∧ X.tape = V.tape ∧ X.output = V.output) :
    KeepsIn B (B + 2 + K) V X ∧ KpOf w.heap.size lw mid V X ∧ (((X.heap[w.heap.size]? = some bx ∧ X.heap[w.heap.size + 1]? = some (.cells (vals .i64 Z).toArray 3 (0, 0))) ∧ X.heap[w.heap.size + 2]? = some by_) ∧ Below w.heap.size w X) := by
  obtain ⟨b, hk⟩ := set_fin (n₀ := w.heap.size) (p := ⟨w.heap.size + 1, j, none⟩) (show w.heap.size ≤ w.heap.size + 1 by omega) hX hX2
  refine ⟨⟨b.size, fun q h1 h2 => hk q (by show q ≠ w.heap.size + 1; omega)⟩, ⟨b, ⟨b.size, fun q h1 h2 => hk q (by show q ≠ w.heap.size + 1; omega)⟩⟩, ⟨⟨⟨(hk _ (by show w.heap.size ≠ w.heap.size + 1; omega)).trans h0, ?_⟩, (hk _ (by show w.heap.size + 2 ≠ w.heap.size + 1; omega)).trans h2⟩, hB.trans b⟩⟩
  rw [hX, ← hZ]; exact arr_set cs y h1
set_option maxRecDepth 100000 in
set_option maxHeartbeats 600000 in
theorem meets_in (n : Int) (hn : IsW n) (h8 : wt n ≤ 8) (k : Nat) (hk : k = 4096) (w : World) (hT : Tab2 w) :
    CallsIn Fence.wide 6 Tryd.prog 40 #[.int .u32 n] w fun e w' => ∃ v, e = .returned v ∧ Own w' w.heap.size v (cnt9 n octS) ∧ Below w.heap.size w w' := by
  have HM := mk9
  refine callsIn_of_wp_marks Tryd.func40 rfl trivial ?_ rfl
  simp only [Tryd.ntmps40, List.size_toArray, List.length_cons, List.length_nil, Nat.reduceAdd, Nat.reduceSub, Array.replicate_succ, Array.replicate_zero, List.push_toArray, List.append_toArray, List.nil_append, List.cons_append]
  gi_wp2_with (refine ⟨trivial, ?_⟩; gi_at_call 35; refine (callsIn_wide.2 (octadsWith_calls _ _ _)).mono ?_; rintro e w' ⟨rfl, rfl⟩)
  have hsz : (((w.alloc (.cells #[.int .u32 n] 44)).alloc (.cells z9 3)).alloc (.cells #[.slice (some ⟨w.heap.size + 1, 0, none⟩) 9 9] 29)).heap.size = w.heap.size + 3 := by simp
  have hb2 : Below w.heap.size w (((w.alloc (.cells #[.int .u32 n] 44)).alloc (.cells z9 3)).alloc (.cells #[.slice (some ⟨w.heap.size + 1, 0, none⟩) 9 9] 29)) := (((Below.refl _ w).alloc (Nat.le_refl _) _).alloc (by simp) _).alloc (by simp; omega) _
  have hX : (((w.alloc (.cells #[.int .u32 n] 44)).alloc (.cells z9 3)).alloc (.cells #[.slice (some ⟨w.heap.size + 1, 0, none⟩) 9 9] 29)).heap[w.heap.size]? = some (.cells #[.int .u32 n] 44 (0, 0)) :=
    (Below.heap_alloc _ _ w.heap.size (by simp; omega)).trans ((Below.heap_alloc _ _ w.heap.size (by simp)).trans (World.alloc_heap_new w _))
  have hA : (((w.alloc (.cells #[.int .u32 n] 44)).alloc (.cells z9 3)).alloc (.cells #[.slice (some ⟨w.heap.size + 1, 0, none⟩) 9 9] 29)).heap[w.heap.size + 1]? = some (.cells z9 3 (0, 0)) := by
    refine (Below.heap_alloc _ _ (w.heap.size + 1) (by simp)).trans ?_
    have := World.alloc_heap_new (w.alloc (.cells #[.int .u32 n] 44)) (.cells z9 3)
    rwa [World.size_alloc] at this
  have hBx : (((w.alloc (.cells #[.int .u32 n] 44)).alloc (.cells z9 3)).alloc (.cells #[.slice (some ⟨w.heap.size + 1, 0, none⟩) 9 9] 29)).heap[w.heap.size + 2]? = some (.cells #[.slice (some ⟨w.heap.size + 1, 0, none⟩) 9 9] 29 (0, 0)) := by
    have := World.alloc_heap_new ((w.alloc (.cells #[.int .u32 n] 44)).alloc (.cells z9 3)) (.cells #[.slice (some ⟨w.heap.size + 1, 0, none⟩) 9 9] 29)
    rwa [World.size_alloc, World.size_alloc] at this
  generalize ((w.alloc (.cells #[.int .u32 n] 44)).alloc (.cells z9 3)).alloc (.cells #[.slice (some ⟨w.heap.size + 1, 0, none⟩) 9 9] 29) = w2 at *
  have hT2 : Tab2 w2 := hT.below hb2 hT.lt
  have hs4 := owW_size 0 0 w2
  have hcb := owW_below 0 0 w2
  have w00 : IsW 0 := ⟨by omega, by omega⟩
  have hit := octs_it 0 0 w00 w00 k w.heap.size hk w2 (by omega) hT.lt hT2
  rw [hsz] at hit hs4
  have hX4 := (hcb.block w.heap.size (by omega)).trans hX
  have hA4 : (owW 0 0 w2).heap[w.heap.size + 1]? = some (.cells (vals .i64 (cnt9 n (([] : List (Oc 0 0)).map fun x => x.val))).toArray 3 (0, 0)) := (hcb.block (w.heap.size + 1) (by omega)).trans hA
  have hE4 := (hcb.block (w.heap.size + 2) (by omega)).trans hBx
  have hB4 : Below w.heap.size w (owW 0 0 w2) := hb2.trans (hcb.mono hb2.size)
  clear hX hb2 hcb hA hBx
  generalize owW 0 0 w2 = w4 at *
  refine wp_range_it (gf := 55) (lb := #[.pointer (some ⟨w.heap.size + 1 + 1 + 1, 0, none⟩), .pointer (some ⟨w.heap.size + 1 + 1 + 1 + 1, 0, none⟩)]) rfl (enters_of Tryd.func55 (by kernel_rfl) rfl) hit (fun h k => KpOf.trans h k) (fun V j o hj hjl => KpOf.put V j o (by omega) (by omega) hjl) (Below.refl _ _) (fun _ => rfl)
    (fun (pre : List (Oc 0 0)) V => ((V.heap[w.heap.size]? = some (.cells #[.int .u32 n] 44 (0, 0)) ∧ V.heap[w.heap.size + 1]? = some (.cells (vals .i64 (cnt9 n (pre.map fun x => x.val))).toArray 3 (0, 0))) ∧ V.heap[w.heap.size + 2]? = some (.cells #[.slice (some ⟨w.heap.size + 1, 0, none⟩) 9 9] 29 (0, 0))) ∧ Below w.heap.size w V)
    (fun _ _ _ => False)
    ((((ownFrom_at _ (by omega)).and (ownFrom_at (fun (pre : List (Oc 0 0)) => .cells (vals .i64 (cnt9 n (pre.map fun x => x.val))).toArray 3 (0, 0)) (by omega))).and (ownFrom_at _ (by omega))).and (ownFrom_below (Nat.le_refl _) (by omega)))
    (fun _ _ _ _ _ hs _ _ => hs)
    ⟨⟨⟨hX4, hA4⟩, hE4⟩, hB4⟩
    (fun x => { tmps := #[.int .u32 n, .pointer (some ⟨w.heap.size, 0, none⟩), .slice none 0 0, .pointer (some ⟨w.heap.size + 1 + 1, 0, none⟩), .int .u32 x.val, .slice (some ⟨w.heap.size + 1, 0, none⟩) 9 9, .func (.func 55) #[] #[.pointer (some ⟨w.heap.size + 1 + 1 + 1, 0, none⟩), .pointer (some ⟨w.heap.size + 1 + 1 + 1 + 1, 0, none⟩)], .int .u32 x.val, undef, undef, undef, undef, undef, undef, undef, undef, undef, undef], defers := [] }) ?assign ?body ?done ?stop
  case assign =>
    intro l x V K hK
    unfold encO
    gi_wp2
    exact hK
  case body =>
    rintro l pre x V ⟨⟨⟨h1, h2⟩, h3⟩, hB⟩ hlen hsK
    have hmx : Tryd.prog.follows .mixedOrders = true := by kernel_rfl
    have hd : 1 ≤ 6 - 1 - 1 := by omega
    have hx := x.property.1
    have wx : IsW x.val := hx.rng
    have hle := wt_and_le x.val n hx.rng.1 hn.1
    have hnn := wt_range (andI x.val n)
    obtain ⟨j, hj⟩ := Int.eq_ofNat_of_zero_le hnn.1
    have hj9 : j < 9 := by omega
    have hS : (cnt9 n (pre.map fun x => x.val)).set j ((cnt9 n (pre.map fun x => x.val)).getD j 0 + 1) = cnt9 n ((pre ++ [x]).map fun x => x.val) := by
      rw [List.map_append, List.map_cons, List.map_nil, cnt9_snoc _ _ _ j hj9 hj]
    have hrg := cnt9_rng n (pre.map fun x => x.val) j hj9
    rw [List.length_map] at hrg
    have hc1 : V.cell? ⟨w.heap.size, 0, none⟩ = some (.int .u32 n) := Boxed.cell (t := 44) h1
    have hc2 := arr_at (cnt9 n (pre.map fun x => x.val)) (j := j) (by rw [cnt9_len]; exact hj9) h2
    have hf2 : V.frozen? ⟨w.heap.size + 1, j, none⟩ = false := Lib.frozen_of_heap h2 _
    have hc3 : V.cell? ⟨w.heap.size + 2, 0, none⟩ = some (.slice (some ⟨w.heap.size + 1, 0, none⟩) 9 9) := Boxed.cell (t := 29) h3
    have H1 := Lib.hid h1
    have H2 := Lib.hid h2
    have H3 := Lib.hid h3
    have HB := Lib.hid hB
    have HJ := Lib.hid hj
    have HS := Lib.hid hS
    have HF := Lib.hid (fun X => meets_fin (X := X) (y := (cnt9 n (pre.map fun x => x.val)).getD j 0 + 1) h1 h2 h3 hB hS (w.heap.size + 3) (w.heap.size + 5) w4.heap.size 10 (by omega) (by omega))
    clear h1 h2 h3 hB hj hS hit hB4 hA4 hX4 hE4 hle hnn hx
    generalize (cnt9 n (pre.map fun x => x.val)).getD j 0 = y at *
    have wax : IsW (andI x.val n) := ⟨andI_nonneg _ _, andI_le _ _ hn.2⟩
    generalize hax : andI x.val n = ax at *
    have HAX := Lib.hid hax
    clear hax
    generalize x.val = xv at *
    have hwy : IntKind.i64.wrap (y + 1) = y + 1 := by rw [IntKind.wrap_i64]; omega
    have HWY := Lib.hid hwy
    clear hwy
    gi_wp2
    gi_region_with_o (first
      | (refine ⟨trivial, ?_⟩; refine (CallsIn.inRound l (callsIn_wide.2 (word_meet _ _ _ wx.1 wx.2 hn.1 hn.2))).mono ?_; rintro e w' ⟨he, rfl⟩; rw [HAX.out] at he; subst he)
      | (refine ⟨trivial, ?_⟩; refine (CallsIn.inRound l (callsIn_wide.2 (word_weight ax _ wax.1 wax.2))).mono ?_; rintro e w' ⟨he, kk, rfl⟩; rw [HJ.out] at he; subst he))
    all_goals gi_wp2
    all_goals (rw [HWY.out]; exact HF.out _ rfl ⟨rfl, rfl, rfl⟩)
  case done =>
    rintro D ys V hD hS ⟨⟨⟨h1, h2⟩, h3⟩, hB⟩ hK
    have hc3 : V.cell? ⟨w.heap.size + 2, 0, none⟩ = some (.slice (some ⟨w.heap.size + 1, 0, none⟩) 9 9) := Boxed.cell (t := 29) h3
    have hl : cnt9 n (ys.map fun x => x.val) = cnt9 n octS := by
      rw [hS, filter_00, cnt9_perm n (octF_perm k hk)]
    have HS := Lib.hid hl
    have H2 := Lib.hid h2
    have HB := Lib.hid hB
    clear h1 h2 h3 hB hl hS hit hB4 hA4 hX4 hE4
    gi_wp2
    refine ⟨by simp, .inl ⟨_, _, rfl, run_takeDeferred hK, ?_⟩⟩
    refine ⟨_, results_tmp rfl _ _ _, _, rfl, ?_, HB.out.trans (belowK_b (w := w) (Nat.le_refl _) V D _ _ (by omega) hK rfl rfl)⟩
    rw [← HS.out]
    exact own_arr9 _ (cnt9_len _ _) ((World.putObj_heap_other (by omega)).trans H2.out) (Nat.le_succ _)
  case stop =>
    rintro D c pre V _ _ h _
    exact h.elim
theorem iOctadMeet_calls (n : Int) (w : World) (hT : Tab3 w) :
    Calls Tryd.prog 14 #[.int .i64 n] w (GotL w (oMeet n).1 (oMeet n).2) := by
  rcases hb : oIn n with _ | _
  · rw [show oMeet n = ([], false) by simp [oMeet, hb]]
    go_enter Tryd.func14, Tryd.ntmps14
    go_wp2_with (go_at_call 39; refine (octadFrom_no _ _ hb hT).mono ?_; rintro e w1 ⟨rfl, b1⟩)
    go_ret2
    exact ⟨_, rfl, Own.nil_ _ _, b1⟩
  · rw [show oMeet n = (cnt9 n octS, true) by simp [oMeet, hb]]
    obtain ⟨wn, _, w8⟩ := oIn_w hb
    obtain ⟨k, hk⟩ : ∃ k, k = 4096 := ⟨_, rfl⟩
    have HM := Lib.hid (fun W hW => callsIn_wide.1 (meets_in n wn (by omega) k hk W hW))
    generalize cnt9 n octS = Z at *
    have H := Lib.hid hb
    clear hb w8
    go_enter Tryd.func14, Tryd.ntmps14
    go_wp2_with fail
    refine (octadFrom_yes _ _ H.out hT).mono ?_
    rintro e w1 ⟨rfl, b1⟩
    have HB1 := Lib.hid b1
    clear b1
    go_wp2_with fail
    refine (HM.out _ (hT.below HB1.out hT.lt).2).mono ?_
    rintro e w2 ⟨v, rfl, o2, b2⟩
    go_wp2_with fail
    go_ret2
    exact ⟨_, rfl, o2.weak HB1.out.size, HB1.out.trans (b2.mono HB1.out.size)⟩
/-- The least so far. -/
def minD (n : Int) (L : List Int) : Int := L.foldl (fun m x => if dodB n x then min m x else m) 16777215
theorem minD_snoc (n : Int) (L : List Int) (x : Int) : minD n (L ++ [x]) = if dodB n x then min (minD n L) x else minD n L := by simp [minD]
theorem minD_le (n : Int) (L : List Int) : minD n L ≤ 16777215 ∧ (∀ x ∈ L, dodB n x = true → minD n L ≤ x) ∧ (minD n L = 16777215 ∨ ∃ x ∈ L, dodB n x = true ∧ minD n L = x) := by
  induction L using snocInd with
  | nil => exact ⟨Int.le_refl _, by simp, .inl rfl⟩
  | append_singleton L y ih =>
    obtain ⟨h1, h2, h3⟩ := ih
    rw [minD_snoc]
    by_cases hy : dodB n y = true
    · rw [if_pos hy]
      refine ⟨by omega, fun x hx hd => ?_, ?_⟩
      · rcases List.mem_append.1 hx with h | h
        · have := h2 x h hd; omega
        · have : x = y := by simpa using h
          omega
      · rcases h3 with h3 | ⟨x, hx, hd, e⟩
        · by_cases hle : y ≤ 16777215
          · exact .inr ⟨y, by simp, hy, by omega⟩
          · exact .inl (by omega)
        · by_cases hle : minD n L ≤ y
          · exact .inr ⟨x, by simp [hx], hd, by omega⟩
          · exact .inr ⟨y, by simp, hy, by omega⟩
    · rw [if_neg hy]
      refine ⟨h1, fun x hx hd => ?_, ?_⟩
      · rcases List.mem_append.1 hx with h | h
        · exact h2 x h hd
        · have : x = y := by simpa using h
          rw [this] at hd
          exact absurd hd hy
      · rcases h3 with h3 | ⟨x, hx, hd, e⟩
        · exact .inl h3
        · exact .inr ⟨x, by simp [hx], hd, e⟩
theorem minD_all (n : Int) (hn : IsW n) (hc : codeInB n = true) (h12 : wt n = 12) (L : List Int) (hL : ∀ x, x ∈ L ↔ IsOct x) : minD n L = leastD n := by
  obtain ⟨a, b, c⟩ := leastD_is n hn.1 hn.2 hc h12
  obtain ⟨h1, h2, h3⟩ := minD_le n L
  have h4 := h2 _ ((hL _).2 a) b
  rcases h3 with h3 | ⟨x, hx, hd, e⟩
  · have := a.rng; omega
  · have := c x ((hL x).1 hx) hd; omega
theorem dod_in (n x : Int) (hn : IsW n) (hc : codeInB n = true) (hx : IsOct x) : codeInB (xorI n x) = true := by
  have hr := hx.rng
  obtain ⟨m, hm, e, _⟩ := hx
  exact code_sum n x hn.1 hn.2 hr.1 hr.2 hc ((codeIn_iff x hr.1 hr.2).2 ⟨m, hm, e⟩)
set_option maxRecDepth 100000 in
set_option maxHeartbeats 600000 in
theorem iDodecadOf_in (n : Int) (hn : IsW n) (hc : codeInB n = true) (h12 : wt n = 12) (k : Nat) (hk : k = 4096) (w : World) (hT : Tab3 w) :
    CallsIn Fence.wide 6 Tryd.prog 24 #[.int .i64 n] w fun e w' => e = .returned (.tuple #[.int .i64 (leastD n), .int .i64 (xorI n (leastD n)), .bool true]) ∧ Below w.heap.size w w' := by
  have HC := Lib.hid hc
  have H12 := Lib.hid h12
  clear hc h12
  refine callsIn_of_wp_marks Tryd.func24 rfl trivial ?_ rfl
  simp only [Tryd.ntmps24, List.size_toArray, List.length_cons, List.length_nil, Nat.reduceAdd, Nat.reduceSub, Array.replicate_succ, Array.replicate_zero, List.push_toArray, List.append_toArray, List.nil_append, List.cons_append]
  gi_wp2_with (first
    | (refine ⟨trivial, ?_⟩; gi_at_call 34; refine (callsIn_wide.2 (wordFrom_ok n _ hn.1 hn.2)).mono ?_; rintro e w' ⟨rfl, rfl⟩)
    | (refine ⟨trivial, ?_⟩; gi_at_call 49; refine (callsIn_wide.2 (word_weight _ _ hn.1 hn.2)).mono ?_; rintro e w' ⟨he, kk, rfl⟩; rw [H12.out] at he; subst he)
    | (refine ⟨trivial, ?_⟩; gi_at_call 51; refine (callsIn_wide.2 (word_inCode _ _ hn (hT.below (below_drewN ((Below.refl _ _).alloc (Nat.le_refl _) _) _) hT.lt))).mono ?_; rintro e w1 ⟨he, b1⟩; rw [HC.out] at he; subst he)
    | (refine ⟨trivial, ?_⟩; gi_at_call 35; refine (callsIn_wide.2 (octadsWith_calls _ _ _)).mono ?_; rintro e w' ⟨rfl, rfl⟩))
  have hsz1 : w.heap.size < w1.heap.size := by have := b1.size; simp at this; omega
  have hB1 : Below w.heap.size w w1 := (below_drewN ((Below.refl _ w).alloc (Nat.le_refl _) (.cells #[.int .u32 n] 44)) kk).trans (b1.mono (by simp))
  have hD1 : w1.heap[w.heap.size]? = some (.cells #[.int .u32 n] 44 (0, 0)) := (b1.block w.heap.size (by simp)).trans (World.alloc_heap_new w _)
  have hb2 := (Below.refl w1.heap.size w1).alloc (Nat.le_refl _) (.cells #[.int .u32 16777215] 44)
  have hD2 := (hb2.block w.heap.size hsz1).trans hD1
  have hL2 : (w1.alloc (.cells #[.int .u32 16777215] 44)).heap[w1.heap.size]? = some (.cells #[.int .u32 16777215] 44 (0, 0)) := World.alloc_heap_new _ _
  have hsz : (w1.alloc (.cells #[.int .u32 16777215] 44)).heap.size = w1.heap.size + 1 := by simp
  clear b1
  generalize w1.alloc (.cells #[.int .u32 16777215] 44) = w2 at *
  have hB2 : Below w.heap.size w w2 := hB1.trans (hb2.mono hB1.size)
  have hT2 : Tab3 w2 := hT.below hB2 hT.lt
  have hs4 := owW_size 0 0 w2
  have hcb := owW_below 0 0 w2
  have w00 : IsW 0 := ⟨by omega, by omega⟩
  have hit := octs_it 0 0 w00 w00 k w.heap.size hk w2 (by omega) (by have := hT.lt; unfold tab3G at this; omega) hT2.2
  rw [hsz] at hit hs4
  have hD4 := (hcb.block w.heap.size (by omega)).trans hD2
  have hL4 := (hcb.block w1.heap.size (by omega)).trans hL2
  have hB4 : Below w.heap.size w (owW 0 0 w2) := hB2.trans (hcb.mono hB2.size)
  clear hD1 hb2 hcb hD2 hL2 hB2 hT2 hB1
  generalize owW 0 0 w2 = w4 at *
  generalize w1.heap.size = G at *
  refine wp_range_it (gf := 55) (lb := #[.pointer (some ⟨G + 1, 0, none⟩), .pointer (some ⟨G + 1 + 1, 0, none⟩)]) rfl (enters_of Tryd.func55 (by kernel_rfl) rfl) hit (fun h k => KpOf.trans h k) (fun V j o hj hjl => KpOf.put V j o (by omega) (by omega) hjl) (Below.refl _ _) (fun _ => rfl)
    (fun (pre : List (Oc 0 0)) V => (V.heap[w.heap.size]? = some (.cells #[.int .u32 n] 44 (0, 0)) ∧ V.heap[G]? = some (.cells #[.int .u32 (minD n (pre.map fun x => x.val))] 44 (0, 0))) ∧ Below w.heap.size w V)
    (fun _ _ _ => False)
    (((ownFrom_at _ (by omega)).and (ownFrom_at (fun (pre : List (Oc 0 0)) => .cells #[.int .u32 (minD n (pre.map fun x => x.val))] 44 (0, 0)) (by omega))).and (ownFrom_below (Nat.le_refl _) (by omega)))
    (fun _ _ _ _ _ hs _ _ => hs)
    ⟨⟨hD4, hL4⟩, hB4⟩
    (fun x => { tmps := #[.int .i64 n, undef, .int .i64 0, .int .i64 0, .bool false, .pointer (some ⟨w.heap.size, 0, none⟩), .bool true, .pointer (some ⟨G, 0, none⟩), .int .u32 x.val, .tuple #[.int .u32 n, .bool true], .int .i64 n, .tuple #[.int .u32 n, .bool true], .int .u32 n, .bool true, .bool true, .bool false, .bool false, .int .u32 n, .int .i64 12, .bool false, .bool false, .bool false, .int .u32 n, .bool true, .bool false, .bool false, .func (.func 55) #[] #[.pointer (some ⟨G + 1, 0, none⟩), .pointer (some ⟨G + 1 + 1, 0, none⟩)], .int .u32 x.val, undef, undef, undef, undef, undef, undef, undef, undef, undef, undef, undef, undef, undef], defers := [] }) ?assign ?body ?done ?stop
  case assign =>
    intro l x V K hK
    unfold encO
    gi_wp2
    exact hK
  case body =>
    rintro l pre x V ⟨⟨h1, h2⟩, hB⟩ hlen hsK
    have hx := x.property.1
    have wx : IsW x.val := hx.rng
    have hc1 : V.cell? ⟨w.heap.size, 0, none⟩ = some (.int .u32 n) := Boxed.cell (t := 44) h1
    have hc2 : V.cell? ⟨G, 0, none⟩ = some (.int .u32 (minD n (pre.map fun x => x.val))) := Boxed.cell (t := 44) h2
    have hf2 : V.frozen? ⟨G, 0, none⟩ = false := Lib.frozen_of_heap h2 _
    have wmin := (minD_le n (pre.map fun x => x.val)).1
    have hsn := minD_snoc n (pre.map fun x => x.val) x.val
    have hmp : ((pre ++ [x]).map fun x => x.val) = (pre.map fun x => x.val) ++ [x.val] := by simp
    rw [← hmp] at hsn
    have wy : IsW (xorI n x.val) := ⟨xorI_nonneg _ _, xorI_le _ _ hn.2 wx.2⟩
    have hio : oIn (xorI n x.val) = dodB n x.val := by
      have := dod_in n x.val hn HC.out hx
      rw [oIn_of wy, this]
      unfold dodB
      by_cases h : wt (xorI n x.val) = 8 <;> simp [h]
    have HSN := Lib.hid hsn
    have HIO := Lib.hid hio
    have H1 := Lib.hid h1
    have H2 := Lib.hid h2
    have HB := Lib.hid hB
    have hTV := Lib.hid (hT.below hB hT.lt)
    clear h1 h2 hB hsn hio hmp hit hB4 hD4 hL4 hx
    generalize minD n (pre.map fun x => x.val) = m at *
    generalize hxv : x.val = xv at *
    clear hxv
    have hGV : G < V.heap.size := by omega
    have hwV : w.heap.size < V.heap.size := by omega
    cases hd : dodB n xv
    · rw [hd] at HIO HSN
      clear hd
      gi_wp2_with fail
      refine ⟨trivial, ?_⟩
      refine (CallsIn.inRound l (callsIn_wide.2 (word_add n xv _ hn.1 hn.2 wx.1 wx.2))).mono ?_
      rintro e w' ⟨rfl, rfl⟩
      gi_wp2_with fail
      refine ⟨trivial, ?_⟩
      refine (CallsIn.inRound l (callsIn_wide.2 (word_isOctad _ _ wy hTV.out))).mono ?_
      rintro e V1 ⟨he, b1⟩
      rw [HIO.out] at he
      subst he
      have HB1 := Lib.hid b1
      clear b1
      gi_wp2_with fail
      refine ⟨KeepsIn.of_below HB1.out (by omega), KpOf.of_below HB1.out (by omega) (by omega), ⟨(HB1.out.block _ hwV).trans H1.out, ?_⟩, HB.out.trans (HB1.out.mono HB.out.size)⟩
      rw [HSN.out]
      exact (HB1.out.block _ hGV).trans H2.out
    · rw [hd] at HIO HSN
      clear hd
      gi_wp2_with fail
      refine ⟨trivial, ?_⟩
      refine (CallsIn.inRound l (callsIn_wide.2 (word_add n xv _ hn.1 hn.2 wx.1 wx.2))).mono ?_
      rintro e w' ⟨rfl, rfl⟩
      gi_wp2_with fail
      refine ⟨trivial, ?_⟩
      refine (CallsIn.inRound l (callsIn_wide.2 (word_isOctad _ _ wy hTV.out))).mono ?_
      rintro e V1 ⟨he, b1⟩
      rw [HIO.out] at he
      subst he
      have hc3 : V1.cell? ⟨G, 0, none⟩ = some (.int .u32 m) := (b1.cell (p := ⟨G, 0, none⟩) hGV).trans hc2
      have hf3 : V1.frozen? ⟨G, 0, none⟩ = false := (b1.frozen (p := ⟨G, 0, none⟩) hGV).trans hf2
      have H12' := Lib.hid ((b1.block _ hwV).trans H1.out)
      have H22 := Lib.hid ((b1.block _ hGV).trans H2.out)
      have HB1 := Lib.hid b1
      clear b1
      gi_wp2_with fail
      have hkp := set_kp (V := V1) (X := V1.setCell ⟨G, 0, none⟩ (.int .u32 (min m xv))) (n₀ := w.heap.size) (lw := G + 1) (mid := G + 1 + 2) (B := w4.heap.size) (C := w4.heap.size + 2 + 10) (p := ⟨G, 0, none⟩) (by show w.heap.size ≤ G; omega) (by show G < _; omega) (by show G < _; omega) rfl ⟨rfl, rfl, rfl⟩
      have hof := (set_fin (V := V1) (X := V1.setCell ⟨G, 0, none⟩ (.int .u32 (min m xv))) (n₀ := w.heap.size) (p := ⟨G, 0, none⟩) (by show w.heap.size ≤ G; omega) rfl ⟨rfl, rfl, rfl⟩).2
      refine ⟨(KeepsIn.of_below HB1.out (by omega)).trans hkp.1, (KpOf.of_below HB1.out (by omega) (by omega)).trans hkp.2, ⟨(hof _ (by show w.heap.size ≠ G; omega)).trans H12'.out, ?_⟩, (HB.out.trans (HB1.out.mono HB.out.size)).trans hkp.2.1⟩
      rw [HSN.out]
      exact set_box H22.out rfl
  case done =>
    rintro D ys V hD hS ⟨⟨h1, h2⟩, hB⟩ hK
    have hmx : Tryd.prog.follows .mixedOrders = true := by kernel_rfl
    have hm : minD n (ys.map fun x => x.val) = leastD n := minD_all n hn HC.out H12.out _ (fun x => by
      rw [hS, filter_00, octF_mem, hk]
      exact Iff.rfl)
    rw [hm] at h2
    obtain ⟨la, _, _⟩ := leastD_is n hn.1 hn.2 HC.out H12.out
    have wl : IsW (leastD n) := la.rng
    generalize hgd : leastD n = d at *
    have HGD := Lib.hid hgd
    clear hgd
    have hc1 : V.cell? ⟨w.heap.size, 0, none⟩ = some (.int .u32 n) := Boxed.cell (t := 44) h1
    have hc2 : V.cell? ⟨G, 0, none⟩ = some (.int .u32 d) := Boxed.cell (t := 44) h2
    have HB := Lib.hid hB
    clear h1 h2 hB hm hS hit hB4 hD4 hL4 la
    gi_wp2
    refine wpIn_mono (Q := fun e a' W => match e with
      | .normal => (∃ q, W = V.drewN q) ∧ a'.tmps.getD 2 undef = .int .i64 (IntKind.i64.wrap d) ∧ a'.tmps.getD 3 undef = .int .i64 (IntKind.i64.wrap (xorI n d)) ∧ a'.tmps.getD 4 undef = .bool true ∧ a'.defers = [{ target := .collected D, args := #[] }]
      | _ => False) ?_ ?_
    · gi_region_with_o (refine ⟨trivial, ?_⟩; refine (callsIn_wide.2 (word_add n d _ hn.1 hn.2 wl.1 wl.2)).mono ?_; rintro e w' ⟨rfl, rfl⟩)
      all_goals gi_wp2
      all_goals exact ⟨_, rfl⟩
    · intro e a' W h
      cases e with
      | normal =>
        obtain ⟨⟨q, rfl⟩, e2, e3, e4, ed⟩ := h
        obtain ⟨tm, ds⟩ := a'
        dsimp only at ed e2 e3 e4
        subst ed
        have hwd : IntKind.i64.wrap d = d := by rw [IntKind.wrap_i64]; have := wl.1; have := wl.2; omega
        have hx0 := xorI_nonneg n d
        have hx1 := xorI_le n d hn.2 wl.2
        have hwx : IntKind.i64.wrap (xorI n d) = xorI n d := by rw [IntKind.wrap_i64]; omega
        rw [hwd] at e2
        rw [hwx] at e3
        have hKd : (V.drewN q).heap[D]? = some (.deferred (some [])) := hK
        have E2 := Lib.hid e2
        have E3 := Lib.hid e3
        have E4 := Lib.hid e4
        clear e2 e3 e4
        gi_wp2
        refine ⟨by simp, .inl ⟨_, _, rfl, run_takeDeferred hKd, ?_⟩⟩
        exact ⟨_, results_tmp3 rfl _ _ _, by rw [HGD.out, E2.out, E3.out, E4.out], (below_drewN HB.out q).trans (belowK_b (w := w) (Nat.le_refl _) (V.drewN q) D _ _ (by omega) hKd rfl rfl)⟩
      | _ => exact h.elim
  case stop =>
    rintro D c pre V _ _ h _
    exact h.elim
theorem iDodecadOf_calls (n : Int) (w : World) (hT : Tab3 w) :
    Calls Tryd.prog 24 #[.int .i64 n] w fun e w' => e = .returned (.tuple #[.int .i64 (oDod n).1, .int .i64 (oDod n).2.1, .bool (oDod n).2.2]) ∧ Below w.heap.size w w' := by
  rcases hb : wordB n with _ | _
  · have hn := (wordB_no n).1 hb
    rw [show oDod n = (0, 0, false) by simp [oDod, cIn, hb]]
    clear hb
    go_enter Tryd.func24, Tryd.ntmps24
    go_wp2_with fail
    refine (wordFrom_no _ _ hn).mono ?_
    rintro e w' ⟨rfl, rfl⟩
    go_wp2_with fail
    go_ret3
    exact ⟨rfl, (Below.refl _ _).alloc (Nat.le_refl _) _⟩
  have hn : IsW n := (wordB_iff n).1 hb
  have hB1 := Lib.hid ((Below.refl w.heap.size w).alloc (Nat.le_refl _) (.cells #[.int .u32 n] 44))
  by_cases h12 : wt n = 12
  · rcases hc : codeInB n with _ | _
    · rw [show oDod n = (0, 0, false) by simp [oDod, cIn, hc]]
      have H12 := Lib.hid h12
      have HC := Lib.hid hc
      clear hb h12 hc
      go_enter Tryd.func24, Tryd.ntmps24
      go_wp2_with fail
      refine (wordFrom_ok _ _ hn.1 hn.2).mono ?_
      rintro e w' ⟨rfl, rfl⟩
      go_wp2_with fail
      refine (word_weight _ _ hn.1 hn.2).mono ?_
      rintro e w' ⟨he, kk, rfl⟩
      rw [H12.out] at he
      subst he
      have HB2 := Lib.hid (below_drewN hB1.out kk)
      go_wp2_with fail
      refine (word_inCode _ _ hn (hT.below HB2.out hT.lt)).mono ?_
      rintro e w1 ⟨he, b1⟩
      rw [HC.out] at he
      subst he
      go_wp2_with fail
      go_ret3
      exact ⟨rfl, HB2.out.trans (b1.mono HB2.out.size)⟩
    · obtain ⟨k, hk⟩ : ∃ k, k = 4096 := ⟨_, rfl⟩
      have hO : oDod n = (leastD n, xorI n (leastD n), true) := by simp [oDod, cIn, hb, hc, h12]
      rw [hO]
      exact callsIn_wide.1 (iDodecadOf_in n hn hc h12 k hk w hT)
  · rw [show oDod n = (0, 0, false) by simp [oDod, h12]]
    have h121 : (wt n == 12) = false := by simpa using h12
    have h122 : (wt n != 12) = true := by simp [h12]
    generalize hq : wt n = q at *
    have HQ := Lib.hid hq
    clear hb h12 hq
    go_enter Tryd.func24, Tryd.ntmps24
    go_wp2_with fail
    refine (wordFrom_ok _ _ hn.1 hn.2).mono ?_
    rintro e w' ⟨rfl, rfl⟩
    go_wp2_with fail
    refine (word_weight _ _ hn.1 hn.2).mono ?_
    rintro e w' ⟨he, kk, rfl⟩
    rw [HQ.out] at he
    subst he
    go_wp2_with fail
    go_ret3
    exact ⟨rfl, below_drewN hB1.out kk⟩
end Go.Proofs.YtiinekoepoonfaaDoor
