/- Drawing a sextet and an octad. -/
import Derived.Test.YtagniijhbiglaaaGreatDoorC54
import Derived.Deep.RegionHeld3
namespace Go.Proofs.YtagniijhbiglaaaGreatDoor
open Go.RowKit
set_option linter.unusedVariables false
attribute [local irreducible] octS cN octF syn
set_option maxRecDepth 100000 in
set_option maxHeartbeats 1000000 in
theorem DrawSextetHolds_calls (A : Option Addr) (c : Nat) (bs : List Int) (w : World) (hr : Rds w w.heap.size .u8 A bs) (hc : bs.length ≤ c) (hm : c ≤ maxLen) (hv : ∀ i, 0 ≤ bs.getD i 0 ∧ bs.getD i 0 ≤ 255) :
    Calls Tryz.prog 11 #[.slice A bs.length c] w fun e w' => ∃ (v : Value) (xs : List Int) (x : Int), e = .returned (.tuple #[v, .int .i64 x]) ∧ Own w' w.heap.size v xs ∧ xs.length ≤ 6 ∧ Below w.heap.size w w' := by
  go_enter Tryz.func11, Tryz.ntmps11
  go_wp2_with fail
  refine (l6Open_calls A c bs _ hr hc hm hv).mono ?_
  rintro e w1 ⟨g, rfl, hg, r1, b1⟩
  go_wp2_with fail
  refine (l92Sextet_calls g 0 _ r1 (by omega)).mono ?_
  rintro e w2 ⟨v, xs, q1, rfl, o2, hl, hq1, r2, g2⟩
  have hlt : g < w1.heap.size := by obtain ⟨A, c, bs, hbk, _⟩ := r1; exact (Array.getElem?_eq_some_iff.1 hbk).1
  have hs1 := b1.size
  have HB2 := Lib.hid (b1.trans (grown_below g2 hg b1.size))
  obtain ⟨A2, c2, rfl⟩ := o2.slice
  have HO2 := Lib.hid o2
  have HL := Lib.hid hl
  have R2 := Lib.hid r2
  clear o2 b1 r1 r2 g2 hl
  by_cases h6 : xs.length = 6
  · obtain ⟨b, rfl, hb1, _⟩ := own_at HO2.out (by omega)
    have H6 := Lib.hid h6
    have hl6 : ((xs.length : Nat) : Int) = 6 := by omega
    clear h6
    have HP := Lib.hid (pick_calls g q1 2 w2 R2.out (by omega) (by omega) (by omega))
    generalize hn : xs.length = n at *
    have HN := Lib.hid hn
    clear hn
    go_wp2_with fail
    refine HP.out.mono ?_
    rintro e w3 ⟨m, rfl, m0, m1, r3, g3⟩
    have HO3 := Lib.hid (HO2.out.grownG g3 hlt)
    have HB3 := Lib.hid (HB2.out.trans (grown_below g3 hg HB2.out.size))
    have R3 := Lib.hid r3
    have hsz3 : w.heap.size ≤ w3.heap.size := HB3.out.size
    clear r3 g3
    by_cases hm0 : m = 0
    · subst hm0
      go_wp2_with fail
      have hc0 : ∀ j, j < 6 → w3.cell? ⟨b, j, none⟩ = some (.int .i64 (xs.getD j 0)) := fun j hj => HO3.out.cell (by rw [HN.out, H6.out]; exact hj)
      refine wp_region_held_drew (S := fun w' => ∀ j, j < 6 → w'.cell? ⟨b, j, none⟩ = some (.int .i64 (xs.getD j 0))) (by kernel_rfl) hc0 (fun hd => ?_)
      refine wpAnyH_take (i := 0) (v := .slice (some ⟨b, 0, none⟩) n c2) rfl (by kernel_rfl) (by kernel_rfl) (by kernel_rfl) (fun _ _ _ h => h) (Or.inl ⟨by kernel_rfl, fun w _ => by kernel_rfl⟩) hd ?_
      change wpAnyH _ _ _ _ _ _ _ (Act.put _ (some 18) (.slice (some ⟨b, 0, none⟩) n c2)) _
      simp only [Act.put, List.setIfInBounds_toArray, List.set_cons_zero, List.set_cons_succ]
      refine wpAnyH_take (i := 1) (v := .slice (some ⟨b, 0, none⟩) n c2) rfl (by kernel_rfl) (by kernel_rfl) (by kernel_rfl) (fun _ _ _ h => h) (Or.inl ⟨by kernel_rfl, fun w _ => by kernel_rfl⟩) hd ?_
      change wpAnyH _ _ _ _ _ _ _ (Act.put _ (some 19) (.slice (some ⟨b, 0, none⟩) n c2)) _
      simp only [Act.put, List.setIfInBounds_toArray, List.set_cons_zero, List.set_cons_succ]
      refine wpAnyH_take (i := 2) (v := .pointer (some ⟨g, 0, none⟩)) rfl (by kernel_rfl) (by kernel_rfl) (by kernel_rfl) (fun _ _ _ h => h) (Or.inl ⟨by kernel_rfl, fun w _ => by kernel_rfl⟩) hd ?_
      change wpAnyH _ _ _ _ _ _ _ (Act.put _ (some 20) (.pointer (some ⟨g, 0, none⟩))) _
      simp only [Act.put, List.setIfInBounds_toArray, List.set_cons_zero, List.set_cons_succ]
      refine wpAnyH_take (i := 6) (v := .slice (some ⟨b, 0, none⟩) n c2) rfl (by kernel_rfl) (by kernel_rfl) (by kernel_rfl) (fun _ _ _ h => h) (Or.inl ⟨by kernel_rfl, fun w _ => by kernel_rfl⟩) hd ?_
      change wpAnyH _ _ _ _ _ _ _ (Act.put _ (some 24) (.slice (some ⟨b, 0, none⟩) n c2)) _
      simp only [Act.put, List.setIfInBounds_toArray, List.set_cons_zero, List.set_cons_succ]
      refine wpAnyH_take (i := 7) (v := .pointer (some ⟨g, 0, none⟩)) rfl (by kernel_rfl) (by kernel_rfl) (by kernel_rfl) (fun _ _ _ h => h) (Or.inl ⟨by kernel_rfl, fun w _ => by kernel_rfl⟩) hd ?_
      change wpAnyH _ _ _ _ _ _ _ (Act.put _ (some 25) (.pointer (some ⟨g, 0, none⟩))) _
      simp only [Act.put, List.setIfInBounds_toArray, List.set_cons_zero, List.set_cons_succ]
      refine wpAnyH_ready (rs := [3]) (by kernel_rfl) (by simp) ?_
      refine AllReadyH.cons rfl (fun K hK => ?_) AllReadyH.nil
      go_simp
      go_at_call 21
      refine (pick_calls g _ 3 _ (by first | exact R3.out | exact (R3.out).drew) (by omega) (by omega) (by omega)).mono ?_
      rintro e w4 ⟨z, rfl, z0, z1, rr, gg⟩
      obtain ⟨p1, rfl⟩ := Int.eq_ofNat_of_zero_le z0
      have HO4 := Lib.hid (Own.grownG (by exact HO3.out) gg hlt)
      have HB4 := Lib.hid (Below.trans (by first | exact HB3.out | exact HB3.out.drew | exact below_drewN HB3.out _) (grown_below gg hg (by first | exact (HB3.out).size | exact (HB3.out.drew).size)))
      have R4 := Lib.hid rr
      have hd2 : ∀ j, j < 6 → w4.cell? ⟨b, j, none⟩ = some (.int .i64 (xs.getD j 0)) := fun j hj => HO4.out.cell (by rw [HN.out, H6.out]; exact hj)
      clear rr gg
      have hz1a : (0 : Int) ≤ (p1 : Int) := by omega
      have hz1b : (p1 : Int) < (n : Int) := by omega
      have hz1c : p1 < 6 := by omega
      have hz1d : (p1 : Int) < 6 := by omega
      obtain ⟨X1, hX1⟩ : ∃ X, xs.getD p1 0 = X := ⟨_, rfl⟩
      have HX1 := Lib.hid hX1
      clear hX1
      refine hK.out _ _ hd2 (fun _ => ?_)
      refine wpAnyH_take (i := 4) (v := .pointer (some ⟨b, p1, none⟩)) rfl (by kernel_rfl) (by kernel_rfl) (by kernel_rfl) (fun _ _ _ h => h) (Or.inl ⟨by kernel_rfl, fun w hS => by go_simp⟩) hd2 ?_
      change wpAnyH _ _ _ _ _ _ _ (Act.put _ (some 22) (.pointer (some ⟨b, p1, none⟩))) _
      simp only [Act.put, List.setIfInBounds_toArray, List.set_cons_zero, List.set_cons_succ]
      refine wpAnyH_take (i := 5) (v := .int .i64 X1) rfl (by kernel_rfl) (by kernel_rfl) (by kernel_rfl) (fun _ _ _ h => h) (Or.inl ⟨by kernel_rfl, fun w hS => by have hS1 := hS p1 hz1c; rw [HX1.out] at hS1; clear hS; go_simp⟩) hd2 ?_
      change wpAnyH _ _ _ _ _ _ _ (Act.put _ (some 23) (.int .i64 X1)) _
      simp only [Act.put, List.setIfInBounds_toArray, List.set_cons_zero, List.set_cons_succ]
      refine wpAnyH_ready (rs := [8]) (by kernel_rfl) (by simp) ?_
      refine AllReadyH.cons rfl (fun K hK => ?_) AllReadyH.nil
      go_simp
      go_at_call 21
      refine (pick_calls g _ 3 _ (by first | exact R4.out | exact (R4.out).drew) (by omega) (by omega) (by omega)).mono ?_
      rintro e w5 ⟨z, rfl, z0, z1, rr, gg⟩
      obtain ⟨p2, rfl⟩ := Int.eq_ofNat_of_zero_le z0
      have HO5 := Lib.hid (Own.grownG (by exact HO4.out) gg hlt)
      have HB5 := Lib.hid (Below.trans (by first | exact HB4.out | exact HB4.out.drew | exact below_drewN HB4.out _) (grown_below gg hg (by first | exact (HB4.out).size | exact (HB4.out.drew).size)))
      have R5 := Lib.hid rr
      have hd2 : ∀ j, j < 6 → w5.cell? ⟨b, j, none⟩ = some (.int .i64 (xs.getD j 0)) := fun j hj => HO5.out.cell (by rw [HN.out, H6.out]; exact hj)
      clear rr gg
      have hz2a : (0 : Int) ≤ (p2 : Int) := by omega
      have hz2b : (p2 : Int) < (n : Int) := by omega
      have hw3 : IntKind.i64.wrap (3 + (p2 : Int)) = ((3 + p2 : Nat) : Int) := by rw [IntKind.wrap_i64]; omega
      have hz2c : (0 : Int) ≤ ((3 + p2 : Nat) : Int) := by omega
      have hz2d : ((3 + p2 : Nat) : Int) < (n : Int) := by omega
      have hz2e : 3 + p2 < 6 := by omega
      have hz2f : ((3 + p2 : Nat) : Int) < 6 := by omega
      obtain ⟨i2, hi2⟩ : ∃ i2, 3 + p2 = i2 := ⟨_, rfl⟩
      rw [hi2] at hw3 hz2c hz2d hz2e hz2f
      obtain ⟨X2, hX2⟩ : ∃ X, xs.getD i2 0 = X := ⟨_, rfl⟩
      have HX2 := Lib.hid hX2
      clear hX2
      refine hK.out _ _ hd2 (fun _ => ?_)
      refine wpAnyH_take (i := 9) (v := .int .i64 (i2 : Nat)) rfl (by kernel_rfl) (by kernel_rfl) (by kernel_rfl) (fun _ _ _ h => h) (Or.inl ⟨by kernel_rfl, fun w hS => by go_simp⟩) hd2 ?_
      change wpAnyH _ _ _ _ _ _ _ (Act.put _ (some 27) (.int .i64 (i2 : Nat))) _
      simp only [Act.put, List.setIfInBounds_toArray, List.set_cons_zero, List.set_cons_succ]
      refine wpAnyH_take (i := 10) (v := .pointer (some ⟨b, i2, none⟩)) rfl (by kernel_rfl) (by kernel_rfl) (by kernel_rfl) (fun _ _ _ h => h) (Or.inl ⟨by kernel_rfl, fun w hS => by go_simp⟩) hd2 ?_
      change wpAnyH _ _ _ _ _ _ _ (Act.put _ (some 28) (.pointer (some ⟨b, i2, none⟩))) _
      simp only [Act.put, List.setIfInBounds_toArray, List.set_cons_zero, List.set_cons_succ]
      refine wpAnyH_take (i := 11) (v := .int .i64 X2) rfl (by kernel_rfl) (by kernel_rfl) (by kernel_rfl) (fun _ _ _ h => h) (Or.inl ⟨by kernel_rfl, fun w hS => by have hS1 := hS i2 hz2e; rw [HX2.out] at hS1; clear hS; go_simp⟩) hd2 ?_
      change wpAnyH _ _ _ _ _ _ _ (Act.put _ (some 29) (.int .i64 X2)) _
      simp only [Act.put, List.setIfInBounds_toArray, List.set_cons_zero, List.set_cons_succ]
      refine wpAnyH_take (i := 12) (v := .int .i64 (bits .xor .i64 X1 X2)) rfl (by kernel_rfl) (by kernel_rfl) (by kernel_rfl) (fun _ _ _ h => h) (Or.inl ⟨by kernel_rfl, fun w hS => by go_simp⟩) hd2 ?_
      change wpAnyH _ _ _ _ _ _ _ (Act.put _ (some 30) (.int .i64 (bits .xor .i64 X1 X2))) _
      simp only [Act.put, List.setIfInBounds_toArray, List.set_cons_zero, List.set_cons_succ]
      refine wpAnyH_take (i := 13) (v := .slice (some ⟨b, 0, none⟩) n c2) rfl (by kernel_rfl) (by kernel_rfl) (by kernel_rfl) (fun _ _ _ h => h) (Or.inl ⟨by kernel_rfl, fun w _ => by kernel_rfl⟩) hd2 ?_
      change wpAnyH _ _ _ _ _ _ _ (Act.put _ (some 2) (.slice (some ⟨b, 0, none⟩) n c2)) _
      simp only [Act.put, List.setIfInBounds_toArray, List.set_cons_zero, List.set_cons_succ]
      refine wpAnyH_take (i := 14) (v := .int .i64 (bits .xor .i64 X1 X2)) rfl (by kernel_rfl) (by kernel_rfl) (by kernel_rfl) (fun _ _ _ h => h) (Or.inl ⟨by kernel_rfl, fun w _ => by kernel_rfl⟩) hd2 ?_
      change wpAnyH _ _ _ _ _ _ _ (Act.put _ (some 3) (.int .i64 (bits .xor .i64 X1 X2))) _
      simp only [Act.put, List.setIfInBounds_toArray, List.set_cons_zero, List.set_cons_succ]
      refine wpAnyH_done (by kernel_rfl) ?_ _
      go_wp2_with fail
      go_ret2
      exact ⟨_, xs, _, rfl, HO5.out.weak hs1, by rw [HN.out]; exact HL.out, HB5.out⟩
    · have hm1 : (m == 0) = false := by simpa using hm0
      clear hm0
      go_wp2_with fail
      refine (l91Octad_calls g _ _ R3.out (by omega)).mono ?_
      rintro e w4 ⟨a, q2, rfl, a0, a1, hq2, r4, g4⟩
      have HO4 := Lib.hid (HO3.out.grownG g4 hlt)
      have HB4 := Lib.hid (HB3.out.trans (grown_below g4 hg HB3.out.size))
      clear g4
      go_wp2_with fail
      go_ret2
      exact ⟨_, xs, a, rfl, HO4.out.weak hs1, by rw [HN.out]; exact HL.out, HB4.out⟩
  · have h61 : (((xs.length : Nat) : Int) == 6) = false := by simp; omega
    clear h6
    generalize hn : xs.length = n at *
    go_wp2_with fail
    refine (l91Octad_calls g _ _ R2.out (by omega)).mono ?_
    rintro e w4 ⟨a, q2, rfl, a0, a1, hq2, r4, g4⟩
    have HO4 := Lib.hid (HO2.out.grownG g4 hlt)
    have HB4 := Lib.hid (HB2.out.trans (grown_below g4 hg HB2.out.size))
    clear g4
    go_wp2_with fail
    go_ret2
    exact ⟨_, xs, a, rfl, HO4.out.weak hs1, by rw [hn]; exact HL.out, HB4.out⟩
end Go.Proofs.YtagniijhbiglaaaGreatDoor
