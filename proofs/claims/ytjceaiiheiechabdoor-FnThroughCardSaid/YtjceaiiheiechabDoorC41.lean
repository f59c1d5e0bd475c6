/- Octads of the program: counted, met, dodecads. -/
import Derived.Test.YtjceaiiheiechabDoorC40
import Derived.Test.YtjceaiiheiechabDoorC31
import Derived.Sort.BigQuietIn
namespace Go.Proofs.YtjceaiiheiechabDoor
open Go.RowKit Go.Shelf
attribute [local go_sem] Oper.semAt_some
set_option linter.unusedVariables false
attribute [local irreducible] octS cN octF

theorem set_fin {V X : World} {p : Addr} {u : Value} {n₀ : Nat} (hn : n₀ ≤ p.block) (hX : X.heap = (V.setCell p u).heap) (hX2 : X.os = V.os ∧ X.tape = V.tape ∧ X.output = V.output) :
    Below n₀ V X ∧ ∀ q, q ≠ p.block → X.heap[q]? = V.heap[q]? := by
  have b0 : Below n₀ V (V.setCell p u) := (Below.refl _ V).setCell hn _
  exact ⟨⟨hX2.1, hX2.2.1, hX2.2.2, by rw [hX]; exact b0.size, fun q hq => by rw [hX]; exact b0.block q hq⟩, fun q hq => by rw [hX]; exact Below.heap_setCell V p _ q hq⟩
theorem set_kp {V X : World} {p : Addr} {u : Value} {n₀ lw mid B C : Nat} (hn : n₀ ≤ p.block) (h1 : p.block < lw) (h2 : p.block < B) (hX : X.heap = (V.setCell p u).heap) (hX2 : X.os = V.os ∧ X.tape = V.tape ∧ X.output = V.output) :
    KeepsIn B C V X ∧ KpOf n₀ lw mid V X := by
  obtain ⟨b, hk⟩ := set_fin hn hX hX2
  exact ⟨⟨b.size, fun q h3 h4 => hk q (by omega)⟩, b, ⟨b.size, fun q h3 h4 => hk q (by omega)⟩⟩
theorem set_box {V X : World} {g : Nat} {u v : Value} {t : TypeId} (h : V.heap[g]? = some (.cells #[u] t (0, 0))) (hX : X.heap = (V.setCell ⟨g, 0, none⟩ v).heap) : X.heap[g]? = some (.cells #[v] t (0, 0)) := by
  rw [hX]
  have := heap_setCell_same V g 0 #[u] t v h
  simpa using this
theorem own_arr9 {w : World} {B g : Nat} (xs : List Int) (hl : xs.length = 9) (hg : w.heap[g]? = some (.cells (vals .i64 xs).toArray 3 (0, 0))) (hB : B ≤ g) : Own w B (.slice (some ⟨g, 0, none⟩) 9 9) xs :=
  ⟨by simp [vals_len, hl], .inr ⟨g, 9, _, by rw [hl], hB, hg, by simp [hl], by unfold maxLen; omega, by simp [vals_len, hl], by
    have : (vals .i64 xs).length ≤ xs.length * 1 := by rw [vals_len]; omega
    simp [List.take_of_length_le, vals_len]⟩⟩
theorem filter_00 (L : List Int) : L.filter (oC 0 0) = L := by
  rw [List.filter_eq_self]
  intro x _
  simp [oC, andI]
theorem octs_it (a b : Int) (wa : IsW a) (wb : IsW b) (k n₀ : Nat) (hk : k = 4096) (w : World) (hn : n₀ ≤ w.heap.size) (hg : tab2G < n₀) (hT : Tab2 w) :
    SeqIt Tryd.prog 38 #[.pointer (some ⟨w.heap.size, 0, none⟩), .pointer (some ⟨w.heap.size + 1, 0, none⟩)] (encO (a := a) (b := b)) 10 (KpOf n₀ w.heap.size (w.heap.size + 2)) (fun ys => ys.map (fun x => x.val) = (octF k).filter (oC a b)) (fun _ => True) 4096 (owW a b w) := by
  have hs := owW_size a b w
  have hc := owW_cells a b w
  have hb := owW_below a b w
  have hT2 := hT.below hb hT.lt
  generalize owW a b w = W at *
  exact octads_it a b wa wb k n₀ w.heap.size (w.heap.size + 2) w.heap.size (w.heap.size + 1) hk W (by omega) (by omega) (Nat.le_refl _) (by omega) (by omega) (by omega) (by omega) (by omega) hg hc.1 hc.2 hT2
set_option maxRecDepth 100000 in
set_option maxHeartbeats 600000 in
theorem iOctadCount_in (a b : Int) (wa : IsW a) (wb : IsW b) (k : Nat) (hk : k = 4096) (N : Int) (HN : Hid (N = (((octF k).countP (oC a b) : Nat) : Int))) (w : World) (hT : Tab2 w) :
    CallsIn Fence.wide 6 Tryd.prog 10 #[.int .i64 a, .int .i64 b] w fun e w' => e = .returned (.tuple #[.int .i64 N, .bool true]) ∧ Below w.heap.size w w' := by
  refine callsIn_of_wp_marks Tryd.func10 rfl trivial ?_ rfl
  simp only [Tryd.ntmps10, List.size_toArray, List.length_cons, List.length_nil, Nat.reduceAdd, Nat.reduceSub, Array.replicate_succ, Array.replicate_zero, List.push_toArray, List.append_toArray, List.nil_append, List.cons_append]
  gi_wp2_with fail
  refine ⟨trivial, ?_⟩
  refine (callsIn_wide.2 (wordFrom_ok a _ wa.1 wa.2)).mono ?_
  rintro e w' ⟨rfl, rfl⟩
  gi_wp2_with fail
  refine ⟨trivial, ?_⟩
  refine (callsIn_wide.2 (wordFrom_ok b _ wb.1 wb.2)).mono ?_
  rintro e w' ⟨rfl, rfl⟩
  gi_wp2_with fail
  refine ⟨trivial, ?_⟩
  refine (callsIn_wide.2 (octadsWith_calls _ _ _)).mono ?_
  rintro e w' ⟨rfl, rfl⟩
  gi_wp2_with fail
  have hsz : (w.alloc (.cells #[.int .i64 0] 3)).heap.size = w.heap.size + 1 := by simp
  have hb2 : Below w.heap.size w (w.alloc (.cells #[.int .i64 0] 3)) := (Below.refl _ w).alloc (Nat.le_refl _) _
  have hX : (w.alloc (.cells #[.int .i64 0] 3)).heap[w.heap.size]? = some (.cells #[.int .i64 0] 3 (0, 0)) := World.alloc_heap_new _ _
  generalize w.alloc (.cells #[.int .i64 0] 3) = w2 at *
  have hT2 : Tab2 w2 := hT.below hb2 hT.lt
  have hs4 := owW_size a b w2
  have hcb := owW_below a b w2
  have hit := octs_it a b wa wb k w.heap.size hk w2 (by omega) hT.lt hT2
  rw [hsz] at hit hs4
  have hX4 := (hcb.block w.heap.size (by omega)).trans hX
  have hB4 : Below w.heap.size w (owW a b w2) := hb2.trans (hcb.mono hb2.size)
  clear hX hb2 hcb
  generalize owW a b w2 = w4 at *
  refine wp_range_it (gf := 38) (lb := #[.pointer (some ⟨w.heap.size + 1, 0, none⟩), .pointer (some ⟨w.heap.size + 1 + 1, 0, none⟩)]) rfl (enters_of Tryd.func38 (by kernel_rfl) rfl) hit (fun h k => KpOf.trans h k) (fun V j o hj hjl => KpOf.put V j o (by omega) (by omega) hjl) (Below.refl _ _) (fun _ => rfl)
    (fun (pre : List (Oc a b)) V => V.heap[w.heap.size]? = some (.cells #[.int .i64 (pre.length : Nat)] 3 (0, 0)) ∧ Below w.heap.size w V)
    (fun _ _ _ => False)
    ((ownFrom_at (fun (pre : List (Oc a b)) => .cells #[.int .i64 (pre.length : Nat)] 3 (0, 0)) (by omega)).and (ownFrom_below (Nat.le_refl _) (by omega)))
    (fun _ _ _ _ _ hs _ _ => hs)
    ⟨hX4, hB4⟩
    (fun x => { tmps := #[.int .i64 a, .int .i64 b, undef, undef, .int .i64 0, .bool false, .int .u32 a, .bool true, .int .u32 b, .pointer (some ⟨w.heap.size, 0, none⟩), .tuple #[.int .u32 a, .bool true], .int .i64 a, .tuple #[.int .u32 a, .bool true], .int .u32 a, .bool true, .bool true, .bool false, .tuple #[.int .u32 b, .bool true], .int .i64 b, .tuple #[.int .u32 b, .bool true], .int .u32 b, .bool true, .bool true, .bool false, .int .u32 a, .int .u32 b, .func (.func 38) #[] #[.pointer (some ⟨w.heap.size + 1, 0, none⟩), .pointer (some ⟨w.heap.size + 1 + 1, 0, none⟩)], .int .u32 x.val, undef, undef, undef], defers := [] }) ?assign ?body ?done ?stop
  case assign =>
    intro l x V K hK
    unfold encO
    gi_wp2
    go_simp
    exact hK
  case body =>
    rintro l pre x V ⟨h1, hB⟩ hlen hsK
    have hc1 : V.cell? ⟨w.heap.size, 0, none⟩ = some (.int .i64 (pre.length : Nat)) := Boxed.cell (t := 3) h1
    have hf1 : V.frozen? ⟨w.heap.size, 0, none⟩ = false := Lib.frozen_of_heap h1 _
    have hln : ((pre ++ [x]).length : Int) = (pre.length : Int) + 1 := by simp
    have HB := Lib.hid hB
    have H1 := Lib.hid h1
    have HLN := Lib.hid hln
    clear h1 hB hln hit hB4 hX4
    generalize pre.length = q at *
    have hq0 : (0 : Int) ≤ (q : Int) := by omega
    have hq1 : (q : Int) < 4096 := by omega
    gi_wp2
    have hkp := set_kp (V := V) (X := V.setCell ⟨w.heap.size, 0, none⟩ (.int .i64 ((q : Int) + 1))) (n₀ := w.heap.size) (lw := w.heap.size + 1) (mid := w.heap.size + 3) (B := w4.heap.size) (C := w4.heap.size + 2 + 10) (p := ⟨w.heap.size, 0, none⟩) (Nat.le_refl _) (by show w.heap.size < _; omega) (by show w.heap.size < _; omega) rfl ⟨rfl, rfl, rfl⟩
    refine ⟨hkp.1, hkp.2, ?_, HB.out.trans hkp.2.1⟩
    have := set_box (v := .int .i64 ((q : Int) + 1)) (X := V.setCell ⟨w.heap.size, 0, none⟩ (.int .i64 ((q : Int) + 1))) H1.out rfl
    rw [HLN.out]
    exact this
  case done =>
    rintro D ys V hD hS ⟨h1, hB⟩ hK
    have hc2 : V.cell? ⟨w.heap.size, 0, none⟩ = some (.int .i64 (ys.length : Nat)) := Boxed.cell (t := 3) h1
    have hl : (ys.length : Int) = N := by
      rw [HN.out, List.countP_eq_length_filter, ← hS, List.length_map]
    rw [hl] at hc2
    have HB := Lib.hid hB
    clear h1 hB hl hS hit hB4 hX4
    gi_wp2
    refine ⟨by simp, .inl ⟨_, _, rfl, run_takeDeferred hK, ?_⟩⟩
    exact ⟨_, results_tmp2 rfl _ _ _, rfl, HB.out.trans (belowK_b (w := w) (Nat.le_refl _) V D _ _ (by omega) hK rfl rfl)⟩
  case stop =>
    rintro D c pre V _ _ h _
    exact h.elim
theorem iOctadCount_calls (a b : Int) (w : World) (hT : Tab2 w) :
    Calls Tryd.prog 10 #[.int .i64 a, .int .i64 b] w fun e w' => e = .returned (.tuple #[.int .i64 (oCount a b).1, .bool (oCount a b).2]) ∧ Below w.heap.size w w' := by
  rcases ha : wordB a with _ | _
  · have hn := (wordB_no a).1 ha
    rw [show oCount a b = (0, false) by simp [oCount, ha]]
    clear ha
    go_enter Tryd.func10, Tryd.ntmps10
    go_wp2_with (go_at_call 28; refine (wordFrom_no _ _ hn).mono ?_; rintro e w' ⟨rfl, rfl⟩)
    go_ret2
    exact ⟨rfl, Below.refl _ _⟩
  have wa : IsW a := (wordB_iff a).1 ha
  rcases hb : wordB b with _ | _
  · have hn := (wordB_no b).1 hb
    rw [show oCount a b = (0, false) by simp [oCount, hb]]
    clear ha hb
    go_enter Tryd.func10, Tryd.ntmps10
    go_wp2_with fail
    refine (wordFrom_ok a _ wa.1 wa.2).mono ?_
    rintro e w' ⟨rfl, rfl⟩
    go_wp2_with fail
    refine (wordFrom_no b _ hn).mono ?_
    rintro e w' ⟨rfl, rfl⟩
    go_wp2_with fail
    go_ret2
    exact ⟨rfl, Below.refl _ _⟩
  have wb : IsW b := (wordB_iff b).1 hb
  obtain ⟨k, hk⟩ : ∃ k, k = 4096 := ⟨_, rfl⟩
  have hN : (oCount a b) = ((((octF k).countP (oC a b) : Nat) : Int), true) := by rw [(octF_perm k hk).countP_eq]; simp [oCount, ha, hb]
  rw [hN]
  exact callsIn_wide.1 (iOctadCount_in a b wa wb k hk _ (Lib.hid rfl) w hT)
/-- The least so far. -/
def minD (n : Int) (L : List Int) : Int := L.foldl (fun m x => if dodB n x then min m x else m) 16777215
theorem minD_snoc (n : Int) (L : List Int) (x : Int) : minD n (L ++ [x]) = if dodB n x then min (minD n L) x else minD n L := by simp [minD]
theorem minD_le (n : Int) (L : List Int) : minD n L ≤ 16777215 ∧ (∀ x ∈ L, dodB n x = true → minD n L ≤ x) ∧ (minD n L = 16777215 ∨ ∃ x ∈ L, dodB n x = true ∧ minD n L = x) := by
  induction L using snocInd with
  | nil => exact ⟨Int.le_refl _, by simp, .inl rfl⟩
  | append_singleton L y ih =>
    obtain ⟨h1, h2, h3⟩ := ih
    rw [minD_snoc]
    by_cases hy : dodB n y = true
    · rw [if_pos hy]
      refine ⟨by omega, fun x hx hd => ?_, ?_⟩
      · rcases List.mem_append.1 hx with h | h
        · have := h2 x h hd; omega
        · have : x = y := by simpa using h
          omega
      · rcases h3 with h3 | ⟨x, hx, hd, e⟩
        · by_cases hle : y ≤ 16777215
          · exact .inr ⟨y, by simp, hy, by omega⟩
          · exact .inl (by omega)
        · by_cases hle : minD n L ≤ y
          · exact .inr ⟨x, by simp [hx], hd, by omega⟩
          · exact .inr ⟨y, by simp, hy, by omega⟩
    · rw [if_neg hy]
      refine ⟨h1, fun x hx hd => ?_, ?_⟩
      · rcases List.mem_append.1 hx with h | h
        · exact h2 x h hd
        · have : x = y := by simpa using h
          rw [this] at hd
          exact absurd hd hy
      · rcases h3 with h3 | ⟨x, hx, hd, e⟩
        · exact .inl h3
        · exact .inr ⟨x, by simp [hx], hd, e⟩
theorem minD_all (n : Int) (hn : IsW n) (hc : codeInB n = true) (h12 : wt n = 12) (L : List Int) (hL : ∀ x, x ∈ L ↔ IsOct x) : minD n L = leastD n := by
  obtain ⟨a, b, c⟩ := leastD_is n hn.1 hn.2 hc h12
  obtain ⟨h1, h2, h3⟩ := minD_le n L
  have h4 := h2 _ ((hL _).2 a) b
  rcases h3 with h3 | ⟨x, hx, hd, e⟩
  · have := a.rng; omega
  · have := c x ((hL x).1 hx) hd; omega
theorem dod_in (n x : Int) (hn : IsW n) (hc : codeInB n = true) (hx : IsOct x) : codeInB (xorI n x) = true := by
  have hr := hx.rng
  obtain ⟨m, hm, e, _⟩ := hx
  exact code_sum n x hn.1 hn.2 hr.1 hr.2 hc ((codeIn_iff x hr.1 hr.2).2 ⟨m, hm, e⟩)
end Go.Proofs.YtjceaiiheiechabDoor
