/- Sums of generators, of the program. -/
import Derived.Test.YtepaaijlkimmeaaDoorC138
import Derived.Test.YtepaaijlkimmeaaDoorC10
import Derived.Test.YtepaaijlkimmeaaDoorP2
import Derived.Shelf.RegionOpen
namespace Go.Proofs.YtepaaijlkimmeaaDoor
open Go.RowKit Go.Shelf
attribute [local go_sem] Oper.semAt_some
set_option linter.unusedVariables false
attribute [local irreducible] cN syn

theorem mod_step (R N : Nat) : R % 2 ^ (N + 1) = R % 2 ^ N ^^^ (if R.testBit N then 2 ^ N else 0) := by
  apply Nat.eq_of_testBit_eq
  intro q
  rw [Nat.testBit_xor, Nat.testBit_mod_two_pow, Nat.testBit_mod_two_pow]
  by_cases h : R.testBit N = true
  · rw [if_pos h, Nat.testBit_two_pow]
    by_cases e : N = q
    · subst e; simp [h]
    · by_cases hl : q < N
      · simp [hl, e, show q < N + 1 by omega]
      · simp [hl, e, show ¬ q < N + 1 by omega]
  · rw [if_neg h, Nat.zero_testBit, Bool.xor_false]
    by_cases e : N = q
    · subst e; simp [h]
    · by_cases hl : q < N
      · simp [hl, show q < N + 1 by omega]
      · simp [hl, show ¬ q < N + 1 by omega]
def sumP (pre : List (Fin 24)) : Nat := pre.foldl (fun s x => s ^^^ gL.getD (x.val % 23) 0) 0
theorem sumP_snoc (pre : List (Fin 24)) (x : Fin 24) : sumP (pre ++ [x]) = sumP pre ^^^ gL.getD (x.val % 23) 0 := by simp [sumP, List.foldl_append]
theorem gL_rng : ∀ i : Fin 24, gL.getD i.val 0 < 16777216 := by decide
theorem sumP_lt (pre : List (Fin 24)) : sumP pre < 16777216 := by
  have h : ∀ (L : List (Fin 24)) (s : Nat), s < 2 ^ 24 → L.foldl (fun s x => s ^^^ gL.getD (x.val % 23) 0) s < 2 ^ 24 := by
    intro L
    induction L with
    | nil => intro s hs; exact hs
    | cons x L ih => intro s hs; exact ih _ (Nat.xor_lt_two_pow hs (gL_rng ⟨x.val % 23, by omega⟩))
  exact h pre 0 (by decide)
theorem sum_to (R : Nat) (hR : R < 8388608) (N : Nat) (hN : N ≤ 24) : (plN R N).foldl (fun s x => s ^^^ gL.getD (x % 23) 0) 0 = lsN (R % 2 ^ N) := by
  induction N with
  | zero =>
    rw [Nat.pow_zero, Nat.mod_one]
    exact (lin_zero gL).symm
  | succ N ih =>
    have ih := ih (by omega)
    have e : plN R (N + 1) = plN R N ++ if R.testBit N then [N] else [] := by
      unfold plN
      rw [List.range_succ, List.filter_append]
      congr 1
      by_cases hb : R.testBit N = true <;> simp [hb]
    rw [e, List.foldl_append, ih, mod_step, lsN_xor]
    generalize lsN (R % 2 ^ N) = A
    by_cases hb : R.testBit N = true
    · have hN : N < 23 := Classical.byContradiction fun hn => by
        rw [Nat.testBit_lt_two_pow (Nat.lt_of_lt_of_le hR (Nat.pow_le_pow_right (show 0 < 2 by decide) (show 23 ≤ N by omega)))] at hb
        cases hb
      rw [if_pos hb, if_pos hb, lsN_gen, List.foldl_cons, List.foldl_nil, Nat.mod_eq_of_lt hN]
    · rw [if_neg hb, if_neg hb, List.foldl_nil, show lsN 0 = 0 from lin_zero gL, Nat.xor_zero]
theorem sumP_all (R : Nat) (hR : R < 8388608) (ys : List (Fin 24)) (h : ys.map (fun x => x.val) = pl R) : sumP ys = lsN R := by
  have h1 := sum_to R hR 24 (Nat.le_refl _)
  rw [Nat.mod_eq_of_lt (show R < 2 ^ 24 by omega)] at h1
  rw [← h1]
  show _ = (pl R).foldl _ 0
  rw [← h, List.foldl_map]
  rfl
theorem less_far (W : Nat) (hW : W < 16777216) : lessI (W : Int) (powI 23) = ((W % 8388608 : Nat) : Int) := by
  unfold lessI powI
  rw [Int.toNat_natCast, show ((2 : Int) ^ (23 : Int).toNat).toNat = 2 ^ 23 from rfl]
  congr 1
  apply Nat.eq_of_testBit_eq
  intro q
  rw [Nat.testBit_xor, Nat.testBit_and, Nat.testBit_two_pow, show (8388608 : Nat) = 2 ^ 23 from rfl, Nat.testBit_mod_two_pow]
  by_cases e : 23 = q
  · subst e; simp
  · by_cases hl : q < 23
    · simp [hl, e]
    · have : W.testBit q = false := Nat.testBit_lt_two_pow (Nat.lt_of_lt_of_le hW (Nat.pow_le_pow_right (show 0 < 2 by decide) (show 24 ≤ q by omega)))
      simp [hl, this]
theorem ownFrom_heapL {β : Type} {B g : Nat} (f : β → Obj) (hgB : g < B) : OwnFrom B (fun (s : β) W => W.heap[g]? = some (f s)) :=
  fun s A C row hs hg hr => (hg.block g (Array.getElem?_eq_some_iff.1 hs).1 fun e => by have := (hr g e.symm).1; omega).trans hs
theorem sum_step {w W : World} {V Z : Int} (hB : Below w.heap.size w W) (hc : W.cell? ⟨w.heap.size, 0, none⟩ = some (.int .u32 V)) (hf : W.frozen? ⟨w.heap.size, 0, none⟩ = false) :
    let W' := (W.setCell ⟨w.heap.size, 0, none⟩ (.int .u32 Z)).drew
    KeepsOthers W W' ∧ Below w.heap.size W W' ∧ (W'.cell? ⟨w.heap.size, 0, none⟩ = some (.int .u32 Z) ∧ W'.frozen? ⟨w.heap.size, 0, none⟩ = false) ∧ Below w.heap.size w W' := by
  intro W'
  have b : Below w.heap.size W W' := ((Below.refl _ W).setCell (p := ⟨w.heap.size, 0, none⟩) (Nat.le_refl _) _).drew
  refine ⟨(KeepsOthers.setCell _ _ _).trans (KeepsOthers.drew _), b, ⟨?_, ?_⟩, hB.trans b⟩
  · show World.cell? (World.drew _) _ = _
    rw [World.cell?_drew, World.cell?_setCell_same _ _ _ hc]
  · show World.frozen? (World.drew _) _ = _
    rw [frozen_drew_own, World.frozen?_setCell]; exact hf
set_option maxRecDepth 100000 in
set_option maxHeartbeats 2000000 in
theorem lineSum_in (W0 : Nat) (hW : W0 < 16777216) (w : World) (hT : TabB w) :
    CallsIn Fence.wide 6 Tryd.prog 42 #[.int .u32 W0] w fun e w' => e = .returned (.int .u32 ((lsN W0 : Nat) : Int)) ∧ Below w.heap.size w w' := by
  obtain ⟨R, hRW⟩ : ∃ R, W0 % 8388608 = R := ⟨_, rfl⟩
  have hR : R < 8388608 := by omega
  obtain ⟨ys, hxs⟩ := plF_ex R
  have hall := sumP_all R hR ys hxs
  rw [← hRW, lsN_mod W0 hW] at hall
  rw [← hall]
  have HLS := Lib.hid (less_far W0 hW)
  rw [hRW] at HLS
  have HL := Lib.hid (fun W => word_less (W0 : Int) (powI 23) W (by omega) (by omega) (Int.le_of_lt (powI_pos 23)) (by have := powI_le 23 (by omega) (by omega); omega))
  rw [HLS.out] at HL
  clear hall hRW hW
  refine callsIn_of_wp_marks Tryd.func42 rfl trivial ?_ rfl
  simp only [Tryd.ntmps42, List.size_toArray, List.length_cons, List.length_nil, Nat.reduceAdd, Nat.reduceSub, Array.replicate_succ, Array.replicate_zero, List.push_toArray, List.append_toArray, List.nil_append, List.cons_append]
  gi_wp2_with (refine ⟨trivial, ?_⟩; first
    | (gi_at_call 58; refine (callsIn_wide.2 (wordAt_calls 23 _ (by omega) (by omega))).mono ?_; rintro e w' ⟨rfl, rfl⟩)
    | (gi_at_call 64; refine (callsIn_wide.2 (HL.out _)).mono ?_; rintro e w' ⟨rfl, rfl⟩)
    | (gi_at_call 60; refine (places_in _ _ _).mono ?_; rintro e w' ⟨rfl, rfl⟩))
  have h3 := Boxed.new w 57 (.int .u32 0)
  have hb := Boxed.new (w.alloc (.cells #[.int .u32 0] 57)) 57 (.int .u32 (R : Int))
  simp only [World.size_alloc] at hb
  have hB0 : Below w.heap.size w ((w.alloc (.cells #[.int .u32 0] 57)).alloc (.cells #[.int .u32 (R : Int)] 57)) := ((Below.refl _ _).alloc (Nat.le_refl _) _).alloc (by simp) _
  have hxl : ys.length ≤ 24 := by have := congrArg List.length hxs; have := pl_len R; simp at *; omega
  refine wpIn_rangeFunc_ownF rfl (by omega) (gf := 68) (lb := #[.pointer (some ⟨w.heap.size + 1, 0, none⟩)]) rfl trivial (enters_of Tryd.func68 (by kernel_rfl) rfl)
    (places_stops 5 (by omega) (w.heap.size + 1) w.heap.size R (by omega) ys hxs _ (by simp) (by simp; omega) hT.lt hb.cell (hT.below hB0 hT.lt)) belowK_t (belowK_b (by simp; omega)) (Below.refl _ _) (fun _ => rfl)
    (fun pre W => (W.cell? ⟨w.heap.size, 0, none⟩ = some (.int .u32 ((sumP pre : Nat) : Int)) ∧ W.frozen? ⟨w.heap.size, 0, none⟩ = false) ∧ Below w.heap.size w W)
    (fun _ _ _ => False)
    (OwnFrom.and (Go.Own.from (fun s A B row hs hg hr => ⟨cell_kept hs.1 hg hr, (frozen_kept hs.1 hg hr).trans hs.2⟩) _) (ownFrom_below (Nat.le_refl _) (by simp; omega)))
    (fun _ _ _ _ _ hs _ _ => hs)
    ⟨⟨(h3.alloc _).cell, (h3.alloc _).frozen⟩, hB0⟩
    (fun x => { tmps := #[.int .u32 (W0 : Int), undef, .int .u32 0, .pointer (some ⟨w.heap.size, 0, none⟩), .int .i64 (x.val : Nat), .int .u32 (W0 : Int), .int .u32 (powI 23), .int .u32 (R : Int), .func (.func 68) #[] #[.pointer (some ⟨w.heap.size + 1, 0, none⟩)], .int .i64 (x.val : Nat), undef, undef, undef, undef, undef], defers := [] }) ?assign ?body ?done ?stop
  case assign =>
    intro l x W K hK
    gi_wp2
    exact hK
  case body =>
    rintro l pre x W ⟨⟨hc, hf⟩, hB⟩ hlt
    have hd : 1 ≤ 6 - 1 - 1 := by omega
    have hmx : Tryd.prog.follows .mixedOrders = true := by kernel_rfl
    have HG := Lib.hid (res_gen24 x)
    have hs := sumP_lt pre
    have hg := gL_rng ⟨x.val % 23, by omega⟩
    have HX := Lib.hid (show xorI ((sumP pre : Nat) : Int) ((gL.getD (x.val % 23) 0 : Nat) : Int) = ((sumP (pre ++ [x]) : Nat) : Int) by
      rw [sumP_snoc]; unfold xorI; simp)
    have hg2 : gL.getD (x.val % 23) 0 < 16777216 := hg
    clear hg
    generalize gL.getD (x.val % 23) 0 = g at *
    generalize sumP pre = s at *
    have HA := Lib.hid (fun W => word_add (s : Int) (g : Int) W (by omega) (by omega) (by omega) (by omega))
    rw [HX.out] at HA
    gi_wp2
    gi_region_with_o (first
      | (refine ⟨trivial, ?_⟩; gi_at_call 33; refine (CallsIn.inRound l (callsIn_wide.2 (HG.out _))).mono ?_; rintro e w' ⟨rfl, rfl⟩)
      | (refine ⟨trivial, ?_⟩; gi_at_call 59; refine (CallsIn.inRound l (callsIn_wide.2 (HA.out _))).mono ?_; rintro e w' ⟨rfl, rfl⟩))
    all_goals gi_wp2
    all_goals exact sum_step hB hc hf
  case done =>
    rintro D zs W hD rfl ⟨⟨hc, hf⟩, hB⟩ hK
    gi_wp2
    refine ⟨by simp, .inl ⟨_, _, rfl, run_takeDeferred hK, ?_⟩⟩
    refine ⟨_, results_tmp rfl _ _ _, rfl, ?_⟩
    exact hB.trans (belowK_b (w := w) (Nat.le_refl _) W D _ _ (by simp at hD; omega) hK rfl rfl)
  case stop =>
    rintro D c pre W _ _ h _
    exact h.elim
theorem lineSum_calls (W0 : Nat) (hW : W0 < 16777216) (w : World) (hT : TabB w) :
    Calls Tryd.prog 42 #[.int .u32 W0] w fun e w' => e = .returned (.int .u32 ((lsN W0 : Nat) : Int)) ∧ Below w.heap.size w w' :=
  callsIn_wide.1 (lineSum_in W0 hW w hT)
end Go.Proofs.YtepaaijlkimmeaaDoor
