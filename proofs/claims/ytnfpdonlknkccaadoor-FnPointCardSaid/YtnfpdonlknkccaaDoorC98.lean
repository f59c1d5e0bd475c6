/- Drawing two lines of a plane. -/
import Derived.Test.YtnfpdonlknkccaaDoorC97
import Derived.Deep.RegionHeld3
namespace Go.Proofs.YtnfpdonlknkccaaDoor
open Go.RowKit
set_option linter.unusedVariables false
attribute [local irreducible] octS cN octF syn

set_option maxHeartbeats 4000000 in
theorem DrawPlanePoint_calls (A : Option Addr) (c : Nat) (bs : List Int) (w : World) (hr : Rds w w.heap.size .u8 A bs) (hc : bs.length ≤ c) (hm : c ≤ maxLen) (hv : ∀ i, 0 ≤ bs.getD i 0 ∧ bs.getD i 0 ≤ 255) :
    Calls Tryd.prog 10 #[.slice A bs.length c] w fun e w' => ∃ a x y : Int, e = .returned (.tuple #[.int .i64 a, .int .i64 x, .int .i64 y]) ∧ Below w.heap.size w w' := by
  go_enter Tryd.func10, Tryd.ntmps10
  go_wp2_with fail
  refine (l6Open_calls A c bs _ hr hc hm hv).mono ?_
  rintro e w1 ⟨g, rfl, hg, r1, b1⟩
  go_wp2_with fail
  refine (l92Base_calls g 0 _ r1 (by omega)).mono ?_
  rintro e w2 ⟨a, q1, rfl, a0, a1, hq1, r2, g2⟩
  have HB2 := Lib.hid (b1.trans (grown_below g2 hg b1.size))
  have hg2 : g < w2.heap.size := r2.lt
  clear g2 b1 r1
  have HPL := Lib.hid (sPlaneLines_calls a w2)
  rcases hb : baseB a with _ | _
  · rw [show plLines a = ([], false) by simp [plLines, hb]] at HPL
    clear hb
    go_wp2_with fail
    refine HPL.out.mono ?_
    rintro e w3 ⟨v, he, o3, b3⟩
    (try dsimp only at he o3)
    subst he
    obtain ⟨A1, c1, rfl⟩ := o3.slice
    have HB3 := HB2.out.trans (b3.mono HB2.out.size)
    go_wp2_with fail
    go_ret3
    exact ⟨a, 0, 1, rfl, HB3⟩
  · obtain ⟨B, rfl, hB⟩ := baseB_nat hb
    rw [show plLines (B : Int) = (lns (B : Int), true) by simp [plLines, hb]] at HPL
    have HLEN := Lib.hid (lns_len hB)
    have HX := Lib.hid (fun k (hk : k < 21) => show IsW ((lns (B : Int)).getD k 0) from by
      have e : (lns (B : Int)).getD k 0 ∈ lns (B : Int) := by rw [← getD_at _ k (by rw [lns_len hB]; omega)]; exact List.getElem_mem _
      obtain ⟨l, h1, h2⟩ := (lns_mem hB _).1 e
      have := (h1.facts hB).1
      rw [h2]
      exact ⟨by omega, by omega⟩)
    clear hb
    generalize lns (B : Int) = L at *
    go_wp2_with fail
    refine HPL.out.mono ?_
    rintro e w3 ⟨v, he, o3, b3⟩
    (try dsimp only at he o3)
    subst he
    obtain ⟨A1, c1, rfl⟩ := o3.slice
    have R3 := Lib.hid (r2.below b3)
    have HB3 := Lib.hid (HB2.out.trans (b3.mono HB2.out.size))
    have O3 := Lib.hid o3
    clear o3 b3
    rw [HLEN.out]
    go_wp2_with fail
    obtain ⟨b, rfl, hb1, _⟩ := own_at O3.out (by rw [HLEN.out]; decide)
    refine (pick_calls g _ 21 _ R3.out (by omega) (by omega) (by omega)).mono ?_
    rintro e w4 ⟨m1, rfl, m10, m11, r4, g4⟩
    obtain ⟨p1, rfl⟩ := Int.eq_ofNat_of_zero_le m10
    have O4 := Lib.hid (O3.out.grownG g4 hg2)
    have HB4 := Lib.hid (HB3.out.trans (grown_below g4 hg HB3.out.size))
    have R4 := Lib.hid r4
    clear r4 g4
    have hc4 : ∀ j, j < 21 → w4.cell? ⟨b, j, none⟩ = some (.int .i64 (L.getD j 0)) := fun j hj => O4.out.cell (by rw [HLEN.out]; exact hj)
    have hp1 : p1 < 21 := by omega
    have hc41 := hc4 p1 hp1
    obtain ⟨X1, hX1⟩ : ∃ X, L.getD p1 0 = X := ⟨_, rfl⟩
    rw [hX1] at hc41
    have HC4 := Lib.hid hc4
    clear hc4 hX1
    go_wp2_with fail
    have hc4 := HC4.out
    refine wp_region_held_drew (S := fun w' => ∀ j, j < 21 → w'.cell? ⟨b, j, none⟩ = some (.int .i64 (L.getD j 0))) (by kernel_rfl) hc4 (fun hd => ?_)
    refine wpAnyH_take (i := 0) (v := .int .i64 (B : Int)) rfl (by kernel_rfl) (by kernel_rfl) (by kernel_rfl) (fun _ _ _ h => h) (Or.inl ⟨by kernel_rfl, fun w _ => by kernel_rfl⟩) hd ?_
    change wpAnyH _ _ _ _ _ _ _ (Act.put _ (some 34) (.int .i64 (B : Int))) _
    simp only [Act.put, List.setIfInBounds_toArray, List.set_cons_zero, List.set_cons_succ]
    refine wpAnyH_take (i := 1) (v := .int .i64 X1) rfl (by kernel_rfl) (by kernel_rfl) (by kernel_rfl) (fun _ _ _ h => h) (Or.inl ⟨by kernel_rfl, fun w _ => by kernel_rfl⟩) hd ?_
    change wpAnyH _ _ _ _ _ _ _ (Act.put _ (some 35) (.int .i64 X1)) _
    simp only [Act.put, List.setIfInBounds_toArray, List.set_cons_zero, List.set_cons_succ]
    refine wpAnyH_take (i := 2) (v := .slice (some ⟨b, 0, none⟩) 21 c1) rfl (by kernel_rfl) (by kernel_rfl) (by kernel_rfl) (fun _ _ _ h => h) (Or.inl ⟨by kernel_rfl, fun w _ => by kernel_rfl⟩) hd ?_
    change wpAnyH _ _ _ _ _ _ _ (Act.put _ (some 36) (.slice (some ⟨b, 0, none⟩) 21 c1)) _
    simp only [Act.put, List.setIfInBounds_toArray, List.set_cons_zero, List.set_cons_succ]
    refine wpAnyH_take (i := 3) (v := .pointer (some ⟨g, 0, none⟩)) rfl (by kernel_rfl) (by kernel_rfl) (by kernel_rfl) (fun _ _ _ h => h) (Or.inl ⟨by kernel_rfl, fun w _ => by kernel_rfl⟩) hd ?_
    change wpAnyH _ _ _ _ _ _ _ (Act.put _ (some 37) (.pointer (some ⟨g, 0, none⟩))) _
    simp only [Act.put, List.setIfInBounds_toArray, List.set_cons_zero, List.set_cons_succ]
    refine wpAnyH_take (i := 4) (v := .slice (some ⟨b, 0, none⟩) 21 c1) rfl (by kernel_rfl) (by kernel_rfl) (by kernel_rfl) (fun _ _ _ h => h) (Or.inl ⟨by kernel_rfl, fun w _ => by kernel_rfl⟩) hd ?_
    change wpAnyH _ _ _ _ _ _ _ (Act.put _ (some 38) (.slice (some ⟨b, 0, none⟩) 21 c1)) _
    simp only [Act.put, List.setIfInBounds_toArray, List.set_cons_zero, List.set_cons_succ]
    refine wpAnyH_take (i := 5) (v := .int .i64 21) rfl (by kernel_rfl) (by kernel_rfl) (by kernel_rfl) (fun _ _ _ h => h) (Or.inl ⟨by kernel_rfl, fun w _ => by kernel_rfl⟩) hd ?_
    change wpAnyH _ _ _ _ _ _ _ (Act.put _ (some 39) (.int .i64 21)) _
    simp only [Act.put, List.setIfInBounds_toArray, List.set_cons_zero, List.set_cons_succ]
    refine wpAnyH_take (i := 9) (v := .pointer (some ⟨g, 0, none⟩)) rfl (by kernel_rfl) (by kernel_rfl) (by kernel_rfl) (fun _ _ _ h => h) (Or.inl ⟨by kernel_rfl, fun w _ => by kernel_rfl⟩) hd ?_
    change wpAnyH _ _ _ _ _ _ _ (Act.put _ (some 43) (.pointer (some ⟨g, 0, none⟩))) _
    simp only [Act.put, List.setIfInBounds_toArray, List.set_cons_zero, List.set_cons_succ]
    refine wpAnyH_ready (rs := [6]) (by kernel_rfl) (by simp) ?_
    refine AllReadyH.cons rfl (fun K hK => ?_) AllReadyH.nil
    go_simp
    go_at_call 21
    refine (pick_calls g _ 21 _ (by first | exact R4.out | exact (R4.out).drew) (by omega) (by omega) (by omega)).mono ?_
    rintro e w5 ⟨z, rfl, z0, z1, rr, gg⟩
    obtain ⟨p2, rfl⟩ := Int.eq_ofNat_of_zero_le z0
    have O5 := Lib.hid (Own.grownG (by exact O4.out) gg hg2)
    have HB5 := Lib.hid (Below.trans (by first | exact HB4.out | exact HB4.out.drew | exact below_drewN HB4.out _) (grown_below gg hg (by first | exact (HB4.out).size | exact (HB4.out.drew).size)))
    have R5 := Lib.hid rr
    have hd2 : ∀ j, j < 21 → w5.cell? ⟨b, j, none⟩ = some (.int .i64 (L.getD j 0)) := fun j hj => O5.out.cell (by rw [HLEN.out]; exact hj)
    clear rr gg
    have hz1a : (0 : Int) ≤ (p2 : Int) := by omega
    have hz1b : (p2 : Int) < 21 := by omega
    have hz1c : p2 < 21 := by omega
    obtain ⟨X2, hX2⟩ : ∃ X, L.getD p2 0 = X := ⟨_, rfl⟩
    have HX2 := Lib.hid hX2
    clear hX2
    refine hK.out _ _ hd2 (fun _ => ?_)
    refine wpAnyH_take (i := 7) (v := .pointer (some ⟨b, p2, none⟩)) rfl (by kernel_rfl) (by kernel_rfl) (by kernel_rfl) (fun _ _ _ h => h) (Or.inl ⟨by kernel_rfl, fun w hS => by go_simp⟩) hd2 ?_
    change wpAnyH _ _ _ _ _ _ _ (Act.put _ (some 41) (.pointer (some ⟨b, p2, none⟩))) _
    simp only [Act.put, List.setIfInBounds_toArray, List.set_cons_zero, List.set_cons_succ]
    refine wpAnyH_take (i := 8) (v := .int .i64 X2) rfl (by kernel_rfl) (by kernel_rfl) (by kernel_rfl) (fun _ _ _ h => h) (Or.inl ⟨by kernel_rfl, fun w hS => by have hS1 := hS p2 hz1c; rw [HX2.out] at hS1; clear hS; go_simp⟩) hd2 ?_
    change wpAnyH _ _ _ _ _ _ _ (Act.put _ (some 42) (.int .i64 X2)) _
    simp only [Act.put, List.setIfInBounds_toArray, List.set_cons_zero, List.set_cons_succ]
    refine wpAnyH_ready (rs := [10]) (by kernel_rfl) (by simp) ?_
    refine AllReadyH.cons rfl (fun K hK => ?_) AllReadyH.nil
    go_simp
    go_at_call 21
    refine (pick_calls g _ 12 _ (by exact R5.out) (by omega) (by omega) (by omega)).mono ?_
    rintro e w6 ⟨z2, rfl, y0, y1, rr, gg⟩
    obtain ⟨Q2, hQ2⟩ : ∃ Q, IntKind.i64.wrap (z2.tdiv 11) = Q := ⟨_, rfl⟩
    have HB6 := Lib.hid (Below.trans HB5.out (grown_below gg hg (HB5.out).size))
    have O6 := Lib.hid (Own.grownG (by exact O5.out) gg hg2)
    have hd2 : ∀ j, j < 21 → w6.cell? ⟨b, j, none⟩ = some (.int .i64 (L.getD j 0)) := fun j hj => O6.out.cell (by rw [HLEN.out]; exact hj)
    clear rr gg
    refine hK.out _ _ hd2 (fun _ => ?_)
    refine wpAnyH_take (i := 11) (v := .int .i64 Q2) rfl (by kernel_rfl) (by kernel_rfl) (by kernel_rfl) (fun _ _ _ h => h) (Or.inl ⟨by kernel_rfl, fun w hS => by go_simp⟩) hd2 ?_
    change wpAnyH _ _ _ _ _ _ _ (Act.put _ (some 45) (.int .i64 Q2)) _
    simp only [Act.put, List.setIfInBounds_toArray, List.set_cons_zero, List.set_cons_succ]
    refine wpAnyH_take (i := 12) (v := .int .i64 (bits .xor .i64 X2 Q2)) rfl (by kernel_rfl) (by kernel_rfl) (by kernel_rfl) (fun _ _ _ h => h) (Or.inl ⟨by kernel_rfl, fun w hS => by go_simp⟩) hd2 ?_
    change wpAnyH _ _ _ _ _ _ _ (Act.put _ (some 46) (.int .i64 (bits .xor .i64 X2 Q2))) _
    simp only [Act.put, List.setIfInBounds_toArray, List.set_cons_zero, List.set_cons_succ]
    refine wpAnyH_take (i := 13) (v := .int .i64 (B : Int)) rfl (by kernel_rfl) (by kernel_rfl) (by kernel_rfl) (fun _ _ _ h => h) (Or.inl ⟨by kernel_rfl, fun w _ => by kernel_rfl⟩) hd2 ?_
    change wpAnyH _ _ _ _ _ _ _ (Act.put _ (some 2) (.int .i64 (B : Int))) _
    simp only [Act.put, List.setIfInBounds_toArray, List.set_cons_zero, List.set_cons_succ]
    refine wpAnyH_take (i := 14) (v := .int .i64 X1) rfl (by kernel_rfl) (by kernel_rfl) (by kernel_rfl) (fun _ _ _ h => h) (Or.inl ⟨by kernel_rfl, fun w _ => by kernel_rfl⟩) hd2 ?_
    change wpAnyH _ _ _ _ _ _ _ (Act.put _ (some 3) (.int .i64 X1)) _
    simp only [Act.put, List.setIfInBounds_toArray, List.set_cons_zero, List.set_cons_succ]
    refine wpAnyH_take (i := 15) (v := .int .i64 (bits .xor .i64 X2 Q2)) rfl (by kernel_rfl) (by kernel_rfl) (by kernel_rfl) (fun _ _ _ h => h) (Or.inl ⟨by kernel_rfl, fun w _ => by kernel_rfl⟩) hd2 ?_
    change wpAnyH _ _ _ _ _ _ _ (Act.put _ (some 4) (.int .i64 (bits .xor .i64 X2 Q2))) _
    simp only [Act.put, List.setIfInBounds_toArray, List.set_cons_zero, List.set_cons_succ]
    refine wpAnyH_done (by kernel_rfl) ?_ _
    go_wp2_with fail
    go_ret3
    exact ⟨_, _, _, rfl, HB6.out⟩
end Go.Proofs.YtnfpdonlknkccaaDoor
