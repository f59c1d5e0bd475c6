/- Numbers as texts of the laws: digits. -/
import Derived.Test.YtcfhfllcdliaoaaGreatDoorH4
import Derived.Test.YtcfhfllcdliaoaaGreatDoorQ1
import Derived.Laws.IdiomStrings
import Derived.Laws.Concat
import Derived.Deep.RegionHeld3
namespace Go.Proofs.YtcfhfllcdliaoaaGreatDoor
open Go.RowKit
set_option linter.unusedVariables false
set_option linter.unusedSimpArgs false

theorem conv_at2 (W : World) (g : Nat) (x : Int) (h0 : 0 ≤ x) (h1 : x < 256) (hc : W.cell? ⟨g, 0, none⟩ = some (.int .u8 x)) : (convert 22 9 (.slice (some ⟨g, 0, none⟩) 1 1)).run Tryz.prog W = .ok (.string ⟨#[UInt8.ofNat x.toNat]⟩) W := by
  obtain ⟨n, rfl⟩ := Int.eq_ofNat_of_zero_le h0
  have hu : (UInt8.ofNat n).toNat = n := by simp; omega
  exact run_convert_bytes_back (P := Tryz.prog) _ 22 9 5 ⟨g, 0, none⟩ 1 [UInt8.ofNat n] Tryz.underlying22 Tryz.underlying5 Tryz.underlying9 (fun j hj => by
    obtain rfl : j = 0 := by simp at hj; omega
    simp only [List.getElem_cons_zero, hu]
    exact hc)
theorem conv_one2 (W : World) (x : Int) (h0 : 0 ≤ x) (h1 : x < 256) : (convert 22 9 (.slice (some ⟨W.heap.size, 0, none⟩) 1 1)).run Tryz.prog (W.alloc (.cells #[.int .u8 x] 5)) = .ok (.string ⟨#[UInt8.ofNat x.toNat]⟩) (W.alloc (.cells #[.int .u8 x] 5)) :=
  conv_at2 _ _ x h0 h1 (World.cell?_alloc_mark W _ _ _ 0)
set_option maxRecDepth 100000 in
set_option maxHeartbeats 1000000 in
theorem digits_small (n : Nat) (hn : n < 10) (w : World) :
    Calls Tryz.prog 18 #[.int .i64 (n : Int)] w fun e w' => e = .returned (.string (decB (n : Int))) ∧ Below w.heap.size w w' := by
  have hn1 : (n : Int) < 10 := by omega
  have hn0 : (0 : Int) ≤ (n : Int) := by omega
  have HC := Lib.hid (fun W => conv_one2 W (48 + (n : Int)) (by omega) (by omega))
  have hmax : max (0 : Int) (n : Int) = (n : Int) := by omega
  have HD := Lib.hid (show decB (n : Int) = ⟨#[UInt8.ofNat (48 + (n : Int)).toNat]⟩ by unfold decB; rw [Int.toNat_natCast, decN_small hn, show (48 + (n : Int)).toNat = 48 + n by omega])
  generalize decB (n : Int) = R at *
  by_cases hz : n = 0
  · subst hz
    go_enter Tryz.func18, Tryz.ntmps18
    go_wp2_with fail
    have HC2 := Lib.hid (fun W => conv_one2 W 48 (by omega) (by omega))
    rw [HC2.out]
    go_wp2_with fail
    go_ret
    exact ⟨by rw [HD.out]; rfl, (Below.refl _ _).alloc (Nat.le_refl _) _⟩
  · have hz1 : ¬ (n : Int) ≤ 0 := by omega
    have hz2 : (0 : Int) < (n : Int) := by omega
    go_enter Tryz.func18, Tryz.ntmps18
    go_wp2_with fail
    rw [HC.out]
    go_wp2_with fail
    go_ret
    exact ⟨by rw [HD.out]; rfl, (Below.refl _ _).alloc (Nat.le_refl _) _⟩
theorem decB_big2 (n : Nat) (h : ¬ n < 10) : decB (n : Int) = decB ((n : Int) / 10) ++ ⟨#[UInt8.ofNat (48 + (n : Int) % 10).toNat]⟩ := by
  unfold decB
  rw [Int.toNat_natCast, decN_big h, show ((n : Int) / 10).toNat = n / 10 by omega, show (48 + (n : Int) % 10).toNat = 48 + n % 10 by omega]
  exact (ByteArray.mk_append_mk (decN (n / 10)) [UInt8.ofNat (48 + n % 10)]).symm
set_option maxRecDepth 100000 in
set_option maxHeartbeats 2000000 in
theorem digits_big (n : Nat) (h : ¬ n < 10) (h18 : n < 1000000000000000000) (IH0 : ∀ W, Calls Tryz.prog 18 #[.int .i64 ((n / 10 : Nat) : Int)] W fun e w' => e = .returned (.string (decB ((n / 10 : Nat) : Int))) ∧ Below W.heap.size W w') (hsz : (decB ((n / 10 : Nat) : Int)).size ≤ 1000) (w : World) :
    Calls Tryz.prog 18 #[.int .i64 (n : Int)] w fun e w' => e = .returned (.string (decB (n : Int))) ∧ Below w.heap.size w w' := by
  have hn1 : ¬ (n : Int) < 10 := by omega
  have hn0 : (0 : Int) ≤ (n : Int) := by omega
  have hn2 : (n : Int) < 1000000000000000000 := by omega
  have eq : ((n / 10 : Nat) : Int) = (n : Int) / 10 := by omega
  rw [eq] at IH0 hsz
  have HB := Lib.hid (decB_big2 n h)
  have hadd : ∀ W, (Op.stringOp .add (decB ((n : Int) / 10)) ⟨#[UInt8.ofNat (48 + (n : Int) % 10).toNat]⟩).run Tryz.prog W = .ok (.string (decB (n : Int))) W := fun W => by
    rw [run_string_add_sum W _ _ (by have : (⟨#[UInt8.ofNat (48 + (n : Int) % 10).toNat]⟩ : ByteArray).size = 1 := rfl; omega), ← HB.out]
  have HC := Lib.hid (fun W => conv_one2 W (48 + (n : Int) % 10) (by omega) (by omega))
  have HA := Lib.hid (fun W g hc => conv_at2 W g (48 + (n : Int) % 10) (by omega) (by omega) hc)
  have IH := Lib.hid IH0
  have hr0 : (0 : Int) ≤ (n : Int) % 10 := by omega
  have hr1 : (n : Int) % 10 < 10 := by omega
  have HADD := Lib.hid hadd
  have HR0 := Lib.hid hr0
  have HN2 := Lib.hid hn2
  have hm : ¬ (n : Int) < -9223372036854775807 := by omega
  have hm2 : ¬ (n : Int) < 0 := by omega
  have HR1 := Lib.hid hr1
  clear IH0 hsz eq HB h hadd hr0 hr1 h18 hn2
  generalize decB (n : Int) = R at *
  generalize decB ((n : Int) / 10) = Q at *
  go_enter Tryz.func18, Tryz.ntmps18
  go_wp2_with fail
  have hadd := HADD.out
  have hr0 := HR0.out
  have hr1 := HR1.out
  have hn2 := HN2.out
  have v1 : IntKind.i64.wrap ((n : Int) / 10) = (n : Int) / 10 := by rw [IntKind.wrap_i64]; omega
  have v2 : (n : Int).tmod 10 = (n : Int) % 10 := Int.tmod_eq_emod_of_nonneg hn0
  have v3 : IntKind.i64.wrap (48 + (n : Int) % 10) = 48 + (n : Int) % 10 := by rw [IntKind.wrap_i64]; omega
  have v4 : IntKind.u8.wrap (48 + (n : Int) % 10) = 48 + (n : Int) % 10 := by rw [IntKind.wrap_u8]; omega
  clear hr0 hr1 hn2 hm hm2 hn1
  refine wp_region_held_drew (S := fun _ => True) (by kernel_rfl) trivial (fun hd => ?_)
  refine wpAnyH_take (i := 0) (v := .int .i64 (n : Int)) rfl (by kernel_rfl) (by kernel_rfl) (by kernel_rfl) (fun _ _ _ h => h) (Or.inl ⟨by kernel_rfl, fun w _ => by kernel_rfl⟩) hd ?_
  change wpAnyH _ _ _ _ _ _ _ (Act.put _ (some 11) (.int .i64 (n : Int))) _
  simp only [Act.put, List.setIfInBounds_toArray, List.set_cons_zero, List.set_cons_succ]
  refine wpAnyH_take (i := 1) (v := .int .i64 ((n : Int) / 10)) rfl (by kernel_rfl) (by kernel_rfl) (by kernel_rfl) (fun _ _ _ h => h) (Or.inl ⟨by kernel_rfl, fun w hS => by go_simp⟩) hd ?_
  change wpAnyH _ _ _ _ _ _ _ (Act.put _ (some 12) (.int .i64 ((n : Int) / 10))) _
  simp only [Act.put, List.setIfInBounds_toArray, List.set_cons_zero, List.set_cons_succ]
  refine wpAnyH_take (i := 3) (v := .int .i64 (n : Int)) rfl (by kernel_rfl) (by kernel_rfl) (by kernel_rfl) (fun _ _ _ h => h) (Or.inl ⟨by kernel_rfl, fun w _ => by kernel_rfl⟩) hd ?_
  change wpAnyH _ _ _ _ _ _ _ (Act.put _ (some 14) (.int .i64 (n : Int))) _
  simp only [Act.put, List.setIfInBounds_toArray, List.set_cons_zero, List.set_cons_succ]
  refine wpAnyH_take (i := 4) (v := .int .i64 ((n : Int) % 10)) rfl (by kernel_rfl) (by kernel_rfl) (by kernel_rfl) (fun _ _ _ h => h) (Or.inl ⟨by kernel_rfl, fun w hS => by go_simp⟩) hd ?_
  change wpAnyH _ _ _ _ _ _ _ (Act.put _ (some 15) (.int .i64 ((n : Int) % 10))) _
  simp only [Act.put, List.setIfInBounds_toArray, List.set_cons_zero, List.set_cons_succ]
  refine wpAnyH_take (i := 5) (v := .int .i64 (48 + (n : Int) % 10)) rfl (by kernel_rfl) (by kernel_rfl) (by kernel_rfl) (fun _ _ _ h => h) (Or.inl ⟨by kernel_rfl, fun w hS => by go_simp⟩) hd ?_
  change wpAnyH _ _ _ _ _ _ _ (Act.put _ (some 16) (.int .i64 (48 + (n : Int) % 10))) _
  simp only [Act.put, List.setIfInBounds_toArray, List.set_cons_zero, List.set_cons_succ]
  refine wpAnyH_take (i := 6) (v := .int .u8 (48 + (n : Int) % 10)) rfl (by kernel_rfl) (by kernel_rfl) (by kernel_rfl) (fun _ _ _ h => h) (Or.inl ⟨by kernel_rfl, fun w hS => by go_simp⟩) hd ?_
  change wpAnyH _ _ _ _ _ _ _ (Act.put _ (some 17) (.int .u8 (48 + (n : Int) % 10))) _
  simp only [Act.put, List.setIfInBounds_toArray, List.set_cons_zero, List.set_cons_succ]
  refine wpAnyH_ready (rs := [2, 7]) (by kernel_rfl) (by simp) ?_
  refine AllReadyH.cons rfl (fun K hK => ?_) (AllReadyH.cons rfl (fun K hK => ?_) AllReadyH.nil)
  · go_simp
    go_at_call 18
    refine (IH.out _).mono ?_
    rintro e w2 ⟨rfl, b2⟩
    refine hK.out _ _ trivial (fun _ => ?_)
    refine wpAnyH_ready (rs := [7]) (by kernel_rfl) (by simp) ?_
    refine AllReadyH.cons rfl (fun K hK => ?_) AllReadyH.nil
    go_simp
    refine hK.out _ _ trivial (fun _ => ?_)
    refine wpAnyH_ready (rs := [8]) (by kernel_rfl) (by simp) ?_
    refine AllReadyH.cons rfl (fun K hK => ?_) AllReadyH.nil
    go_simp
    rw [HC.out]
    go_simp
    refine hK.out _ _ trivial (fun _ => ?_)
    refine wpAnyH_take (i := 9) (v := .string R) rfl (by kernel_rfl) (by kernel_rfl) (by kernel_rfl) (fun _ _ _ h => h) (Or.inl ⟨by kernel_rfl, fun w hS => by go_simp⟩) trivial ?_
    change wpAnyH _ _ _ _ _ _ _ (Act.put _ (some 20) (.string R)) _
    simp only [Act.put, List.setIfInBounds_toArray, List.set_cons_zero, List.set_cons_succ]
    refine wpAnyH_take (i := 10) (v := .string R) rfl (by kernel_rfl) (by kernel_rfl) (by kernel_rfl) (fun _ _ _ h => h) (Or.inl ⟨by kernel_rfl, fun w _ => by kernel_rfl⟩) trivial ?_
    change wpAnyH _ _ _ _ _ _ _ (Act.put _ (some 2) (.string R)) _
    simp only [Act.put, List.setIfInBounds_toArray, List.set_cons_zero, List.set_cons_succ]
    refine wpAnyH_done (by kernel_rfl) ?_ _
    go_wp2_with fail
    go_ret
    exact ⟨rfl, ((Below.refl w.heap.size w).drew.trans b2).alloc (by have := b2.size; exact this) _⟩
  · go_simp
    refine hK.out _ _ trivial (fun _ => ?_)
    refine wpAnyH_ready (rs := [2, 8]) (by kernel_rfl) (by simp) ?_
    refine AllReadyH.cons rfl (fun K hK => ?_) (AllReadyH.cons rfl (fun K hK => ?_) AllReadyH.nil)
    · go_simp
      go_at_call 18
      refine (IH.out _).mono ?_
      rintro e w2 ⟨rfl, b2⟩
      refine hK.out _ _ trivial (fun _ => ?_)
      refine wpAnyH_ready (rs := [8]) (by kernel_rfl) (by simp) ?_
      refine AllReadyH.cons rfl (fun K hK => ?_) AllReadyH.nil
      go_simp
      rw [HA.out _ _ ((b2.cell (p := ⟨w.heap.size, 0, none⟩) (by simp)).trans (World.cell?_alloc_mark w.drew _ _ _ 0))]
      go_simp
      refine hK.out _ _ trivial (fun _ => ?_)
      refine wpAnyH_take (i := 9) (v := .string R) rfl (by kernel_rfl) (by kernel_rfl) (by kernel_rfl) (fun _ _ _ h => h) (Or.inl ⟨by kernel_rfl, fun w hS => by go_simp⟩) trivial ?_
      change wpAnyH _ _ _ _ _ _ _ (Act.put _ (some 20) (.string R)) _
      simp only [Act.put, List.setIfInBounds_toArray, List.set_cons_zero, List.set_cons_succ]
      refine wpAnyH_take (i := 10) (v := .string R) rfl (by kernel_rfl) (by kernel_rfl) (by kernel_rfl) (fun _ _ _ h => h) (Or.inl ⟨by kernel_rfl, fun w _ => by kernel_rfl⟩) trivial ?_
      change wpAnyH _ _ _ _ _ _ _ (Act.put _ (some 2) (.string R)) _
      simp only [Act.put, List.setIfInBounds_toArray, List.set_cons_zero, List.set_cons_succ]
      refine wpAnyH_done (by kernel_rfl) ?_ _
      go_wp2_with fail
      go_ret
      exact ⟨rfl, ((Below.refl w.heap.size w).drew.alloc (Nat.le_refl _) _).trans (b2.mono (by simp))⟩
    · go_simp
      rw [HA.out _ w.heap.size (show (w.alloc (.cells #[.int .u8 (48 + (n : Int) % 10)] 5)).drew.cell? ⟨w.heap.size, 0, none⟩ = some (.int .u8 (48 + (n : Int) % 10)) from World.cell?_alloc_mark w _ _ _ 0)]
      go_simp
      refine hK.out _ _ trivial (fun _ => ?_)
      refine wpAnyH_ready (rs := [2]) (by kernel_rfl) (by simp) ?_
      refine AllReadyH.cons rfl (fun K hK => ?_) AllReadyH.nil
      go_simp
      go_at_call 18
      refine (IH.out _).mono ?_
      rintro e w2 ⟨rfl, b2⟩
      refine hK.out _ _ trivial (fun _ => ?_)
      refine wpAnyH_take (i := 9) (v := .string R) rfl (by kernel_rfl) (by kernel_rfl) (by kernel_rfl) (fun _ _ _ h => h) (Or.inl ⟨by kernel_rfl, fun w hS => by go_simp⟩) trivial ?_
      change wpAnyH _ _ _ _ _ _ _ (Act.put _ (some 20) (.string R)) _
      simp only [Act.put, List.setIfInBounds_toArray, List.set_cons_zero, List.set_cons_succ]
      refine wpAnyH_take (i := 10) (v := .string R) rfl (by kernel_rfl) (by kernel_rfl) (by kernel_rfl) (fun _ _ _ h => h) (Or.inl ⟨by kernel_rfl, fun w _ => by kernel_rfl⟩) trivial ?_
      change wpAnyH _ _ _ _ _ _ _ (Act.put _ (some 2) (.string R)) _
      simp only [Act.put, List.setIfInBounds_toArray, List.set_cons_zero, List.set_cons_succ]
      refine wpAnyH_done (by kernel_rfl) ?_ _
      go_wp2_with fail
      go_ret
      exact ⟨rfl, ((Below.refl w.heap.size w).drew.alloc (Nat.le_refl _) _).trans (b2.mono (by simp))⟩
theorem digits_calls : ∀ (f n : Nat), n < 10 ^ (f + 1) → f ≤ 16 → ∀ w, Calls Tryz.prog 18 #[.int .i64 (n : Int)] w fun e w' => e = .returned (.string (decB (n : Int))) ∧ Below w.heap.size w w'
  | 0, n, hn, _, w => digits_small n (by omega) w
  | f + 1, n, hn, hf, w => by
    by_cases h : n < 10
    · exact digits_small n h w
    · have hn2 : n / 10 < 10 ^ (f + 1) := by rw [Nat.pow_succ] at hn; omega
      have h18 : n < 10 ^ 18 := Nat.lt_of_lt_of_le hn (Nat.pow_le_pow_right (by decide) (by omega))
      have hl := decN_len f (n / 10) hn2
      exact digits_big n h (by have h10 : (10 : Nat) ^ 18 = 1000000000000000000 := (by decide); omega) (fun W => digits_calls f (n / 10) hn2 (by omega) W) (by unfold decB; rw [Int.toNat_natCast]; show ((decN (n / 10)).toArray).size ≤ 1000; simp; omega) w
end Go.Proofs.YtcfhfllcdliaoaaGreatDoor
