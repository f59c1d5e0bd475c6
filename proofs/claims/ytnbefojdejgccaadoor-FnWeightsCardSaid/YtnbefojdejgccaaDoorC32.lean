/- Counting weights, of the program: a range over the words of the code. -/
import Derived.Test.YtnbefojdejgccaaDoorC31
namespace Go.Proofs.YtnbefojdejgccaaDoor
open Go.RowKit Go.Shelf
attribute [local go_sem] Oper.semAt_some
set_option linter.unusedVariables false

def mv (pre : List (Fin 4096)) : List Nat := pre.map fun x => x.val
theorem mv_snoc (pre : List (Fin 4096)) (x : Fin 4096) : mv (pre ++ [x]) = mv pre ++ [x.val] := by simp [mv]
theorem mv_len (pre : List (Fin 4096)) : (mv pre).length = pre.length := by simp [mv]
theorem cw_fin {w V : World} {g j : Nat} {cs Z : List Int} {y : Int} {bx : Obj} (k : Nat) (hg : w.heap.size = g) (h1 : V.heap[g]? = some (.cells (vals .i64 cs).toArray 3 (0, 0))) (h2 : V.heap[g + 1]? = some bx) (hB : Below w.heap.size w V) (hZ : cs.set j y = Z) (lw mid B K : Nat) (hlw : g < lw) (hB0 : g + 2 ≤ B) (X : World)
    (hX : X.heap = (V.setCell ⟨g, j, none⟩ (.int .i64 y)).heap) (hX2 : X.os = V.os ∧ X.tape = V.tape ∧ X.output = V.output) :
    KeepsIn B (B + 2 + K) V X ∧ KpOf w.heap.size lw mid V X ∧ ((X.heap[g]? = some (.cells (vals .i64 Z).toArray 3 (0, 0)) ∧ X.heap[g + 1]? = some bx) ∧ Below w.heap.size w X) := by
  have b0 : Below w.heap.size V (V.setCell ⟨g, j, none⟩ (.int .i64 y)) := (Below.refl _ V).setCell (p := ⟨g, j, none⟩) (by show w.heap.size ≤ g; omega) _
  have b : Below w.heap.size V X := ⟨hX2.1, hX2.2.1, hX2.2.2, by rw [hX]; exact b0.size, fun q hq => by rw [hX]; exact b0.block q hq⟩
  have hk : ∀ q, q ≠ g → X.heap[q]? = V.heap[q]? := fun q hq => by rw [hX]; exact Below.heap_setCell V ⟨g, j, none⟩ _ q hq
  refine ⟨⟨b.size, fun q h1 h2 => hk q (by omega)⟩, ⟨b, ⟨b.size, fun q h1 h2 => hk q (by omega)⟩⟩, ⟨⟨?_, (hk (g + 1) (by omega)).trans h2⟩, hB.trans b⟩⟩
  rw [hX, ← hZ]; exact arr_set cs y h1
set_option maxRecDepth 100000 in
set_option maxHeartbeats 4000000 in
theorem iCodeWeights_in (lo hi : Nat) (hlo : lo ≤ hi) (hhi : hi < 4096) (w : World) (hT : Tab2 w) :
    CallsIn Fence.wide 6 Tryd.prog 29 #[.int .i64 lo, .int .i64 hi] w fun e w' => ∃ v, e = .returned (.tuple #[v, .bool true]) ∧ Own w' w.heap.size v (cntF (msgs lo hi)) ∧ Below w.heap.size w w' := by
  have HM := mk25
  refine callsIn_of_wp_marks Tryd.func29 rfl trivial ?_ rfl
  simp only [Tryd.ntmps29, List.size_toArray, List.length_cons, List.length_nil, Nat.reduceAdd, Nat.reduceSub, Array.replicate_succ, Array.replicate_zero, List.push_toArray, List.append_toArray, List.nil_append, List.cons_append]
  gi_wp2_with (first
    | (refine ⟨trivial, ?_⟩; gi_at_call 45; refine (callsIn_wide.2 (messageFrom_ok _ _ ⟨by omega, by omega⟩)).mono ?_; rintro e w' ⟨rfl, rfl⟩)
    | (refine ⟨trivial, ?_⟩; gi_at_call 49; refine (callsIn_wide.2 (codeWords_calls _ _ _)).mono ?_; rintro e w' ⟨rfl, rfl⟩))
  have hsz : ((w.alloc (.cells z25 3)).alloc (.cells #[.slice (some ⟨w.heap.size, 0, none⟩) 25 25] 27)).heap.size = w.heap.size + 2 := by simp
  have hb2 : Below w.heap.size w ((w.alloc (.cells z25 3)).alloc (.cells #[.slice (some ⟨w.heap.size, 0, none⟩) 25 25] 27)) := ((Below.refl _ w).alloc (Nat.le_refl _) _).alloc (by simp) _
  have hA : ((w.alloc (.cells z25 3)).alloc (.cells #[.slice (some ⟨w.heap.size, 0, none⟩) 25 25] 27)).heap[w.heap.size]? = some (.cells z25 3 (0, 0)) :=
    (Below.heap_alloc _ _ w.heap.size (by simp)).trans (World.alloc_heap_new w _)
  have hBx : ((w.alloc (.cells z25 3)).alloc (.cells #[.slice (some ⟨w.heap.size, 0, none⟩) 25 25] 27)).heap[w.heap.size + 1]? = some (.cells #[.slice (some ⟨w.heap.size, 0, none⟩) 25 25] 27 (0, 0)) := by
    have := World.alloc_heap_new (w.alloc (.cells z25 3)) (.cells #[.slice (some ⟨w.heap.size, 0, none⟩) 25 25] 27)
    rwa [World.size_alloc] at this
  generalize (w.alloc (.cells z25 3)).alloc (.cells #[.slice (some ⟨w.heap.size, 0, none⟩) 25 25] 27) = w2 at *
  have hT2 : Tab2 w2 := hT.below hb2 hT.lt
  have hs4 := cwW_size lo hi w2
  have hcb := cwW_below lo hi w2
  have hit := codeWords_it lo hi w.heap.size (w.heap.size + 2) (w.heap.size + 6) hlo hhi w2 (cwW lo hi w2) (Below.refl _ _) (by omega) hT.lt (by omega) (by omega) (by omega) hT2
  rw [hsz] at hit hs4
  have hB4 : Below w.heap.size w (cwW lo hi w2) := hb2.trans (hcb.mono hb2.size)
  have hA4 : (cwW lo hi w2).heap[w.heap.size]? = some (.cells (vals .i64 (cntF (mv []))).toArray 3 (0, 0)) := (hcb.block _ (by omega)).trans hA
  have hX4 := (hcb.block (w.heap.size + 1) (by omega)).trans hBx
  clear hA hBx hb2 hcb
  generalize cwW lo hi w2 = w4 at *
  refine wp_range_it (gf := 74) (lb := #[.pointer (some ⟨w.heap.size + 1 + 1 + 2, 0, none⟩), .pointer (some ⟨w.heap.size + 1 + 1 + 3, 0, none⟩)]) rfl (enters_of Tryd.func74 (by kernel_rfl) rfl) hit (fun h k => KpOf.trans h k) (fun V j o hj hjl => KpOf.put V j o (by omega) (by omega) hjl) (Below.refl _ _) (fun _ => rfl)
    (fun pre V => (V.heap[w.heap.size]? = some (.cells (vals .i64 (cntF (mv pre))).toArray 3 (0, 0)) ∧ V.heap[w.heap.size + 1]? = some (.cells #[.slice (some ⟨w.heap.size, 0, none⟩) 25 25] 27 (0, 0))) ∧ Below w.heap.size w V)
    (fun _ _ _ => False)
    (((ownFrom_at (fun pre => .cells (vals .i64 (cntF (mv pre))).toArray 3 (0, 0)) (by omega)).and (ownFrom_at _ (by omega))).and (ownFrom_below (Nat.le_refl _) (by omega)))
    (fun _ _ _ _ _ hs _ _ => hs)
    ⟨⟨hA4, hX4⟩, hB4⟩
    (fun x => { tmps := #[.int .i64 lo, .int .i64 hi, undef, undef, .slice none 0 0, .bool false, .int .u16 lo, .bool true, .int .u16 hi, .pointer (some ⟨w.heap.size + 1, 0, none⟩), .int .u32 (codeOf (x.val : Nat)), .tuple #[.int .u16 lo, .bool true], .int .i64 lo, .tuple #[.int .u16 lo, .bool true], .int .u16 lo, .bool true, .bool true, .bool false, .tuple #[.int .u16 hi, .bool true], .int .i64 hi, .tuple #[.int .u16 hi, .bool true], .int .u16 hi, .bool true, .bool true, .bool false, .bool false, .int .u16 lo, .int .u16 hi, .bool false, .bool false, .slice (some ⟨w.heap.size, 0, none⟩) 25 25, .int .u16 lo, .int .u16 hi, .func (.func 74) #[] #[.pointer (some ⟨w.heap.size + 1 + 1 + 2, 0, none⟩), .pointer (some ⟨w.heap.size + 1 + 1 + 3, 0, none⟩)], .int .u32 (codeOf (x.val : Nat)), undef, undef, undef, undef, undef, undef, undef, undef], defers := [] }) ?assign ?body ?done ?stop
  case assign =>
    intro l x V K hK
    unfold encW
    gi_wp2
    exact hK
  case body =>
    rintro l pre x V ⟨⟨h1, h2⟩, hB⟩ hlen hsK
    have hmx : Tryd.prog.follows .mixedOrders = true := by kernel_rfl
    have hd : 1 ≤ 6 - 1 - 1 := by omega
    have hr := codeOf_range (x.val : Nat)
    have hw := wt_code x.val x.isLt
    have hp := pop_le (cN x.val)
    have hln := cntF_len (mv pre)
    have hrg := cntF_rng (mv pre) (pop (cN x.val)) (by omega)
    rw [mv_len] at hrg
    have hS : (cntF (mv pre)).set (pop (cN x.val)) ((cntF (mv pre)).getD (pop (cN x.val)) 0 + 1) = cntF (mv (pre ++ [x])) := by rw [mv_snoc, cntF_snoc]; rfl
    have hc1 := arr_at (cntF (mv pre)) (j := pop (cN x.val)) (by omega) h1
    have hf1 : V.frozen? ⟨w.heap.size, pop (cN x.val), none⟩ = false := Lib.frozen_of_heap h1 _
    have hc2 : V.cell? ⟨w.heap.size + 1, 0, none⟩ = some (.slice (some ⟨w.heap.size, 0, none⟩) 25 25) := Boxed.cell (t := 27) h2
    have HF := Lib.hid (fun X => cw_fin (X := X) 0 rfl h1 h2 hB hS (w.heap.size + 2) (w.heap.size + 6) w4.heap.size 3 (by omega) (by omega))
    have HW := Lib.hid hw
    clear h1 h2 hB hw hS hln hit hB4 hA4 hX4
    generalize (cntF (mv pre)).getD (pop (cN x.val)) 0 = y at *
    generalize pop (cN x.val) = j at *
    generalize codeOf (x.val : Nat) = cx at *
    have hwy : IntKind.i64.wrap (y + 1) = y + 1 := by rw [IntKind.wrap_i64]; omega
    have HWY := Lib.hid hwy
    clear hwy
    gi_wp2
    gi_region_with_o (refine ⟨trivial, ?_⟩; refine (CallsIn.inRound l (callsIn_wide.2 (word_weight _ _ hr.1 hr.2))).mono ?_; rintro e w' ⟨he, kk, rfl⟩; rw [HW.out] at he; subst he)
    all_goals gi_wp2
    all_goals (rw [HWY.out]; exact HF.out _ rfl ⟨rfl, rfl, rfl⟩)
  case done =>
    rintro D ys V hD hS ⟨⟨h1, h2⟩, hB⟩ hK
    have hc2 : V.cell? ⟨w.heap.size + 1, 0, none⟩ = some (.slice (some ⟨w.heap.size, 0, none⟩) 25 25) := Boxed.cell (t := 27) h2
    have HS := Lib.hid (show mv ys = msgs lo hi from hS)
    have H1 := Lib.hid h1
    have HB := Lib.hid hB
    clear h1 h2 hB hS hit hB4 hA4 hX4
    gi_wp2
    refine ⟨by simp, .inl ⟨_, _, rfl, run_takeDeferred hK, ?_⟩⟩
    refine ⟨_, results_tmp2 rfl _ _ _, _, rfl, ?_, HB.out.trans (belowK_b (w := w) (Nat.le_refl _) V D _ _ (by omega) hK rfl rfl)⟩
    rw [← HS.out]
    exact own_arr _ (cntF_len _) ((World.putObj_heap_other (by omega)).trans H1.out) (Nat.le_refl _)
  case stop =>
    rintro D c pre V _ _ h _
    exact h.elim
theorem iCodeWeights_calls (a b : Int) (w : World) (hT : Tab2 w) :
    Calls Tryd.prog 29 #[.int .i64 a, .int .i64 b] w (GotL w (cWeights a b).1 (cWeights a b).2) := by
  rcases hb : wgtB a b with _ | _
  · rw [show cWeights a b = ([], false) by simp [cWeights, hb]]
    have hn : ¬ (0 ≤ a ∧ a ≤ b ∧ b ≤ 4095) := by rw [← wgtB_iff, hb]; simp
    clear hb
    by_cases ha : IsM a
    · by_cases hb : IsM b
      · have h1 : b < a := by unfold IsM at ha hb; omega
        go_enter Tryd.func29, Tryd.ntmps29
        go_wp2_with (go_at_call 45; refine (messageFrom_ok _ _ (by assumption)).mono ?_; rintro e w' ⟨rfl, rfl⟩)
        go_ret2
        exact ⟨_, rfl, Own.nil_ _ _, Below.refl _ _⟩
      · have hb' : b < 0 ∨ 4095 < b := by unfold IsM at hb; omega
        go_enter Tryd.func29, Tryd.ntmps29
        go_wp2_with (go_at_call 45; first | (refine (messageFrom_ok _ _ (by assumption)).mono ?_; rintro e w' ⟨rfl, rfl⟩) | (refine (messageFrom_no _ _ (by assumption)).mono ?_; rintro e w' ⟨rfl, rfl⟩))
        go_ret2
        exact ⟨_, rfl, Own.nil_ _ _, Below.refl _ _⟩
    · have ha' : a < 0 ∨ 4095 < a := by unfold IsM at ha; omega
      go_enter Tryd.func29, Tryd.ntmps29
      go_wp2_with (go_at_call 45; refine (messageFrom_no _ _ ha').mono ?_; rintro e w' ⟨rfl, rfl⟩)
      go_ret2
      exact ⟨_, rfl, Own.nil_ _ _, Below.refl _ _⟩
  · rw [show cWeights a b = (cntF (msgs a.toNat b.toNat), true) by simp [cWeights, hb]]
    obtain ⟨h0, h1, h2⟩ := (wgtB_iff a b).1 hb
    obtain ⟨lo, rfl⟩ := Int.eq_ofNat_of_zero_le h0
    obtain ⟨hi, rfl⟩ := Int.eq_ofNat_of_zero_le (show 0 ≤ b by omega)
    simp only [Int.toNat_natCast]
    exact callsIn_wide.1 (iCodeWeights_in lo hi (by omega) (by omega) w hT)
end Go.Proofs.YtnbefojdejgccaaDoor
