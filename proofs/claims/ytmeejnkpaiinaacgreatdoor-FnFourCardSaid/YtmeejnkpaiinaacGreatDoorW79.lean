/- The walk of the promise of the further points. -/
import Derived.Test.YtmeejnkpaiinaacGreatDoorR1
import Derived.Test.YtmeejnkpaiinaacGreatDoorQ9
import Derived.Test.YtmeejnkpaiinaacGreatDoorC10
import Derived.Deep.RegionHeld3
import Derived.Test.YtmeejnkpaiinaacGreatDoorC148
namespace Go.Proofs.YtmeejnkpaiinaacGreatDoor
open Go.RowKit
set_option linter.unusedVariables false
set_option linter.unusedSimpArgs false
attribute [local irreducible] octS cN octF syn

set_option maxHeartbeats 4000000 in
theorem walk_FnFour (a0 : Option Addr) (len0 cap0 : Nat) (z0 : List Int) (w : World) (w0 : IsRow .u8 w a0 len0 cap0 z0) (hT : Tab3E w) :
    Calls Tryz.prog 7 #[.slice a0 len0 cap0] w fun e w' => e = .returned (.bool true) ∧ Below w.heap.size w w' := by
  obtain ⟨bs, rfl, hr, hc, hm, hv⟩ := w0.bytes
  have hm' := hm
  unfold maxLen at hm'
  by_cases hbig : 1048576 < bs.length
  · go_enter Tryz.func7, Tryz.ntmps7
    go_wp2_with fail
    go_ret
    exact ⟨rfl, Below.refl _ _⟩
  have hbig' : bs.length ≤ 1048576 := by omega
  clear hbig
  go_enter Tryz.func7, Tryz.ntmps7
  go_wp2_with fail
  refine (DrawPlaneFour_calls _ _ bs _ hr hc hm hv).mono ?_
  rintro e w1 ⟨b, v, rfl, b1⟩
  have B0 := Lib.hid (b1)
  rcases four_cases b v with H0 | ⟨x, y, z, M, O, H0, o0, o1, v0, v1, hpl, hOv, hline, hz24, hM24, hM1⟩
  · have H := Lib.hid H0
    clear H0
    go_wp2_with fail
    refine (iPlaneFour_calls b v _ (hT.below (B0.out) hT.lt)).mono ?_
    rintro e w1_ ⟨he, b1_⟩
    rw [H.out] at he
    (try dsimp only at he)
    subst he
    have B1 := Lib.hid ((B0.out).trans (b1_.mono (B0.out).size))
    clear b1_
    go_wp2_with fail
    refine (sPlaneFour_calls b v _).mono ?_
    rintro e w2_ ⟨he, b2_⟩
    rw [H.out] at he
    (try dsimp only at he)
    subst he
    have B2 := Lib.hid ((B1.out).trans (b2_.mono (B1.out).size))
    clear b2_
    go_wp2_with fail
    go_ret
    exact ⟨rfl, B2.out⟩
  · have H := Lib.hid H0
    have HP := Lib.hid hpl
    have HL := Lib.hid hline
    have hz1 : (0 : Int) ≤ (z : Int) := by omega
    have hz2 : (z : Int) < 64 := by omega
    have hand : bits .and .i64 O v = 0 := (and_i64 O v o0 (by omega) v0 (by omega)).trans hOv
    have hrem : ((M : Int) / 2 ^ z).tmod 2 = 1 := by
      rw [Int.tmod_eq_emod_of_nonneg (Int.ediv_nonneg (by omega) (Int.le_of_lt (Int.pow_pos (by decide))))]; exact hM1
    clear H0 hpl hline hM1 hOv
    go_wp2_with fail
    refine (iPlaneFour_calls b v _ (hT.below (B0.out) hT.lt)).mono ?_
    rintro e w1_ ⟨he, b1_⟩
    rw [H.out] at he
    (try dsimp only at he)
    subst he
    have B1 := Lib.hid ((B0.out).trans (b1_.mono (B0.out).size))
    clear b1_
    go_wp2_with fail
    refine (sPlaneFour_calls b v _).mono ?_
    rintro e w2_ ⟨he, b2_⟩
    rw [H.out] at he
    (try dsimp only at he)
    subst he
    have B2 := Lib.hid ((B1.out).trans (b2_.mono (B1.out).size))
    clear b2_
    go_wp2_with fail
    refine (iWordPlaces_ok O _ ⟨o0, o1⟩ (hT.below (B2.out) hT.lt).1).mono ?_
    rintro e w3 ⟨v3, rfl, o3, b3⟩
    rw [HP.out] at o3
    obtain ⟨Ax, cx, rfl⟩ := o3.slice
    have B3 := Lib.hid ((B2.out).trans (b3.mono (B2.out).size))
    obtain ⟨gz, rfl, hgz1, hgz2⟩ := own_at o3 (by simp)
    have hc0 : w3.cell? ⟨gz, 0, none⟩ = some (.int .i64 (x : Int)) := o3.cell (j := 0) (by simp)
    have hc1 : w3.cell? ⟨gz, 1, none⟩ = some (.int .i64 (y : Int)) := o3.cell (j := 1) (by simp)
    have hc2 : w3.cell? ⟨gz, 2, none⟩ = some (.int .i64 (z : Int)) := o3.cell (j := 2) (by simp)
    simp only [List.length_cons, List.length_nil, Nat.reduceAdd]
    clear b3 o3
    go_wp2_with fail
    refine wp_region_held_drew (S := fun w' => w'.cell? ⟨gz, 0, none⟩ = some (.int .i64 (x : Int)) ∧ w'.cell? ⟨gz, 1, none⟩ = some (.int .i64 (y : Int)) ∧ w'.cell? ⟨gz, 2, none⟩ = some (.int .i64 (z : Int))) (by kernel_rfl) ⟨hc0, hc1, hc2⟩ (fun hd => ?_)
    refine wpAnyH_take (i := 0) (v := .int .i64 b) rfl (by kernel_rfl) (by kernel_rfl) (by kernel_rfl) (fun _ _ _ h => h) (Or.inl ⟨by kernel_rfl, fun w _ => by kernel_rfl⟩) hd ?_
    change wpAnyH _ _ _ _ _ _ _ (Act.put _ (some 72) (.int .i64 b)) _
    simp only [Act.put, List.setIfInBounds_toArray, List.set_cons_zero, List.set_cons_succ]
    refine wpAnyH_take (i := 1) (v := .slice (some ⟨gz, 0, none⟩) 3 cx) rfl (by kernel_rfl) (by kernel_rfl) (by kernel_rfl) (fun _ _ _ h => h) (Or.inl ⟨by kernel_rfl, fun w _ => by kernel_rfl⟩) hd ?_
    change wpAnyH _ _ _ _ _ _ _ (Act.put _ (some 73) (.slice (some ⟨gz, 0, none⟩) 3 cx)) _
    simp only [Act.put, List.setIfInBounds_toArray, List.set_cons_zero, List.set_cons_succ]
    refine wpAnyH_take (i := 2) (v := .pointer (some ⟨gz, 0, none⟩)) rfl (by kernel_rfl) (by kernel_rfl) (by kernel_rfl) (fun _ _ _ h => h) (Or.inl ⟨by kernel_rfl, fun w hS => by go_simp⟩) hd ?_
    change wpAnyH _ _ _ _ _ _ _ (Act.put _ (some 74) (.pointer (some ⟨gz, 0, none⟩))) _
    simp only [Act.put, List.setIfInBounds_toArray, List.set_cons_zero, List.set_cons_succ]
    refine wpAnyH_take (i := 3) (v := .int .i64 (x : Int)) rfl (by kernel_rfl) (by kernel_rfl) (by kernel_rfl) (fun _ _ _ h => h) (Or.inl ⟨by kernel_rfl, fun w hS => by have hS1 := hS.1; have hS2 := hS.2.1; have hS3 := hS.2.2; go_simp⟩) hd ?_
    change wpAnyH _ _ _ _ _ _ _ (Act.put _ (some 75) (.int .i64 (x : Int))) _
    simp only [Act.put, List.setIfInBounds_toArray, List.set_cons_zero, List.set_cons_succ]
    refine wpAnyH_take (i := 4) (v := .slice (some ⟨gz, 0, none⟩) 3 cx) rfl (by kernel_rfl) (by kernel_rfl) (by kernel_rfl) (fun _ _ _ h => h) (Or.inl ⟨by kernel_rfl, fun w _ => by kernel_rfl⟩) hd ?_
    change wpAnyH _ _ _ _ _ _ _ (Act.put _ (some 76) (.slice (some ⟨gz, 0, none⟩) 3 cx)) _
    simp only [Act.put, List.setIfInBounds_toArray, List.set_cons_zero, List.set_cons_succ]
    refine wpAnyH_take (i := 5) (v := .pointer (some ⟨gz, 1, none⟩)) rfl (by kernel_rfl) (by kernel_rfl) (by kernel_rfl) (fun _ _ _ h => h) (Or.inl ⟨by kernel_rfl, fun w hS => by go_simp⟩) hd ?_
    change wpAnyH _ _ _ _ _ _ _ (Act.put _ (some 77) (.pointer (some ⟨gz, 1, none⟩))) _
    simp only [Act.put, List.setIfInBounds_toArray, List.set_cons_zero, List.set_cons_succ]
    refine wpAnyH_take (i := 6) (v := .int .i64 (y : Int)) rfl (by kernel_rfl) (by kernel_rfl) (by kernel_rfl) (fun _ _ _ h => h) (Or.inl ⟨by kernel_rfl, fun w hS => by have hS1 := hS.1; have hS2 := hS.2.1; have hS3 := hS.2.2; go_simp⟩) hd ?_
    change wpAnyH _ _ _ _ _ _ _ (Act.put _ (some 78) (.int .i64 (y : Int))) _
    simp only [Act.put, List.setIfInBounds_toArray, List.set_cons_zero, List.set_cons_succ]
    refine wpAnyH_ready (rs := [7]) (by kernel_rfl) (by simp) ?_
    refine AllReadyH.cons rfl (fun K hK => ?_) AllReadyH.nil
    go_simp
    go_at_call 33
    refine (iPlaneLine_calls b (x : Int) (y : Int) _ (hT.below (B3.out.drew) hT.lt).two (hT.below (B3.out.drew) hT.lt).hand).mono ?_
    rintro e w4 ⟨he, b4⟩
    rw [HL.out] at he
    dsimp only at he
    subst he
    have hd2 := And.intro ((b4.cell (p := ⟨gz, 0, none⟩) hgz2).trans hc0) (And.intro ((b4.cell (p := ⟨gz, 1, none⟩) hgz2).trans hc1) ((b4.cell (p := ⟨gz, 2, none⟩) hgz2).trans hc2))
    have B4 := Lib.hid (B3.out.drew.trans (b4.mono B3.out.drew.size))
    refine hK.out _ _ hd2 (fun _ => ?_)
    refine wpAnyH_take (i := 8) (v := .tuple #[.int .i64 (M : Int), .bool true]) rfl (by kernel_rfl) (by kernel_rfl) (by kernel_rfl) (fun _ _ _ h => h) (Or.inl ⟨by kernel_rfl, fun w _ => by kernel_rfl⟩) hd2 ?_
    change wpAnyH _ _ _ _ _ _ _ (Act.put _ (some 71) (.tuple #[.int .i64 (M : Int), .bool true])) _
    simp only [Act.put, List.setIfInBounds_toArray, List.set_cons_zero, List.set_cons_succ]
    refine wpAnyH_take (i := 9) (v := .int .i64 (M : Int)) rfl (by kernel_rfl) (by kernel_rfl) (by kernel_rfl) (fun _ _ _ h => h) (Or.inl ⟨by kernel_rfl, fun w hS => by go_simp⟩) hd2 ?_
    change wpAnyH _ _ _ _ _ _ _ (Act.put _ (some 80) (.int .i64 (M : Int))) _
    simp only [Act.put, List.setIfInBounds_toArray, List.set_cons_zero, List.set_cons_succ]
    refine wpAnyH_take (i := 10) (v := .bool true) rfl (by kernel_rfl) (by kernel_rfl) (by kernel_rfl) (fun _ _ _ h => h) (Or.inl ⟨by kernel_rfl, fun w hS => by go_simp⟩) hd2 ?_
    change wpAnyH _ _ _ _ _ _ _ (Act.put _ (some 81) (.bool true)) _
    simp only [Act.put, List.setIfInBounds_toArray, List.set_cons_zero, List.set_cons_succ]
    refine wpAnyH_take (i := 11) (v := .int .i64 (M : Int)) rfl (by kernel_rfl) (by kernel_rfl) (by kernel_rfl) (fun _ _ _ h => h) (Or.inl ⟨by kernel_rfl, fun w _ => by kernel_rfl⟩) hd2 ?_
    change wpAnyH _ _ _ _ _ _ _ (Act.put _ (some 11) (.int .i64 (M : Int))) _
    simp only [Act.put, List.setIfInBounds_toArray, List.set_cons_zero, List.set_cons_succ]
    refine wpAnyH_take (i := 12) (v := .bool true) rfl (by kernel_rfl) (by kernel_rfl) (by kernel_rfl) (fun _ _ _ h => h) (Or.inl ⟨by kernel_rfl, fun w _ => by kernel_rfl⟩) hd2 ?_
    change wpAnyH _ _ _ _ _ _ _ (Act.put _ (some 12) (.bool true)) _
    simp only [Act.put, List.setIfInBounds_toArray, List.set_cons_zero, List.set_cons_succ]
    refine wpAnyH_done (by kernel_rfl) ?_ _
    have hz := hd2.2.2
    go_wp2_with fail
    go_ret
    first | exact ⟨rfl, B4.out⟩ | exact B4.out
end Go.Proofs.YtmeejnkpaiinaacGreatDoor
