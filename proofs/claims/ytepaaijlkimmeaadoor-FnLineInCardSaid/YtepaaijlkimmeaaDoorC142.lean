/- Drawing words for sums of generators and words of the line code. -/
import Derived.Test.YtepaaijlkimmeaaDoorC141
import Derived.Test.YtepaaijlkimmeaaDoorQ2
import Derived.Deep.RegionHeld3
namespace Go.Proofs.YtepaaijlkimmeaaDoor
open Go.RowKit
set_option linter.unusedVariables false
attribute [local irreducible] cN syn

theorem DrawLineSum_calls (A : Option Addr) (c : Nat) (bs : List Int) (w : World) (hr : Rds w w.heap.size .u8 A bs) (hc : bs.length ≤ c) (hm : c ≤ maxLen) (hv : ∀ i, 0 ≤ bs.getD i 0 ∧ bs.getD i 0 ≤ 255) :
    Calls Tryd.prog 18 #[.slice A bs.length c] w fun e w' => ∃ n : Int, e = .returned (.int .i64 n) ∧ Below w.heap.size w w' := by
  go_enter Tryd.func18, Tryd.ntmps18
  go_wp2_with fail
  refine (l6Open_calls A c bs _ hr hc hm hv).mono ?_
  rintro e w1 ⟨g, rfl, hg, r1, b1⟩
  go_wp2_with fail
  refine (l91Word_calls g _ _ r1 (by omega)).mono ?_
  rintro e w2 ⟨v, q, rfl, v0, v1, _, r2, g2⟩
  go_wp2_with fail
  go_ret
  exact ⟨_, rfl, b1.trans (grown_below g2 hg b1.size)⟩
set_option maxHeartbeats 1000000 in
theorem DrawLineIn_calls (A : Option Addr) (c : Nat) (bs : List Int) (w : World) (hr : Rds w w.heap.size .u8 A bs) (hc : bs.length ≤ c) (hm : c ≤ maxLen) (hv : ∀ i, 0 ≤ bs.getD i 0 ∧ bs.getD i 0 ≤ 255) :
    Calls Tryd.prog 21 #[.slice A bs.length c] w fun e w' => ∃ n : Int, e = .returned (.int .i64 n) ∧ Below w.heap.size w w' := by
  go_enter Tryd.func21, Tryd.ntmps21
  go_wp2_with fail
  refine (l6Open_calls A c bs _ hr hc hm hv).mono ?_
  rintro e w1 ⟨g, rfl, hg, r1, b1⟩
  go_wp2_with fail
  refine (l91Word_calls g _ _ r1 (by omega)).mono ?_
  rintro e w2 ⟨v, q, rfl, v0, v1, hq, r2, g2⟩
  have B2 := Lib.hid (b1.trans (grown_below g2 hg b1.size))
  have HL := Lib.hid (sLineSum_calls v w2)
  clear b1 g2
  rcases hs : lsI v with ⟨s, b⟩
  rw [hs] at HL
  have hs0 : 0 ≤ s ∧ s ≤ 16777215 := by
    rcases w_orL v with ⟨W, rfl, hW⟩ | h
    · rw [lsI_val W hW] at hs
      have := lsN_lt W
      cases hs; omega
    · rw [lsI_no h] at hs
      cases hs; omega
  obtain ⟨s0, s1⟩ := hs0
  clear hs
  go_wp2_with fail
  refine HL.out.mono ?_
  rintro e w3 ⟨rfl, b3⟩
  have B3 := Lib.hid (B2.out.trans (b3.mono B2.out.size))
  have R3 := Lib.hid (r2.below b3)
  clear b3 HL B2 r2 r1
  rcases b with _ | _
  · go_wp2_with fail
    refine (l91Word_calls g _ _ R3.out (by omega)).mono ?_
    rintro e w4 ⟨u, q4, rfl, u0, u1, _, r4, g4⟩
    go_wp2_with fail
    go_ret
    exact ⟨_, rfl, B3.out.trans (grown_below g4 hg B3.out.size)⟩
  · go_wp2_with fail
    refine (pick_calls g _ 4 _ R3.out (by omega) (by omega) (by omega)).mono ?_
    rintro e w4 ⟨f, rfl, f0, f1, r4, g4⟩
    have B4 := Lib.hid (B3.out.trans (grown_below g4 hg B3.out.size))
    have R4 := Lib.hid r4
    clear r4 g4
    by_cases hf : 0 < f
    · go_wp2_with fail
      -- region
      refine wp_region_held_drew (S := fun _ => True) (by kernel_rfl) trivial (fun hd => ?_)
      refine wpAnyH_take (i := 0) (v := .int .i64 s) rfl (by kernel_rfl) (by kernel_rfl) (by kernel_rfl) (fun _ _ _ h => h) (Or.inl ⟨by kernel_rfl, fun w _ => by kernel_rfl⟩) hd ?_
      change wpAnyH _ _ _ _ _ _ _ (Act.put _ (some 20) (.int .i64 s)) _
      simp only [Act.put, List.setIfInBounds_toArray, List.set_cons_zero, List.set_cons_succ]
      refine wpAnyH_take (i := 1) (v := .pointer (some ⟨g, 0, none⟩)) rfl (by kernel_rfl) (by kernel_rfl) (by kernel_rfl) (fun _ _ _ h => h) (Or.inl ⟨by kernel_rfl, fun w _ => by kernel_rfl⟩) hd ?_
      change wpAnyH _ _ _ _ _ _ _ (Act.put _ (some 21) (.pointer (some ⟨g, 0, none⟩))) _
      simp only [Act.put, List.setIfInBounds_toArray, List.set_cons_zero, List.set_cons_succ]
      refine wpAnyH_take (i := 4) (v := .pointer (some ⟨g, 0, none⟩)) rfl (by kernel_rfl) (by kernel_rfl) (by kernel_rfl) (fun _ _ _ h => h) (Or.inl ⟨by kernel_rfl, fun w _ => by kernel_rfl⟩) hd ?_
      change wpAnyH _ _ _ _ _ _ _ (Act.put _ (some 24) (.pointer (some ⟨g, 0, none⟩))) _
      simp only [Act.put, List.setIfInBounds_toArray, List.set_cons_zero, List.set_cons_succ]
      refine wpAnyH_ready (rs := [2]) (by kernel_rfl) (by simp) ?_
      refine AllReadyH.cons rfl (fun K hK => ?_) AllReadyH.nil
      go_simp
      go_at_call 45
      refine (pick_calls g _ 24 _ (by first | exact R4.out | exact (R4.out).drew) (by omega) (by omega) (by omega)).mono ?_
      rintro e w5 ⟨k, rfl, k0, k1, rr, gg⟩
      obtain ⟨kn, rfl⟩ := Int.eq_ofNat_of_zero_le k0
      have B5 := Lib.hid (Below.trans (by first | exact B4.out | exact B4.out.drew) (grown_below gg hg (by first | exact (B4.out).size | exact (B4.out.drew).size)))
      have R5 := Lib.hid rr
      have hd2 := hd
      obtain ⟨X, hX⟩ : ∃ X, IntKind.i64.wrap (2 ^ kn) = X := ⟨_, rfl⟩
      clear rr gg
      refine hK.out _ _ hd2 (fun _ => ?_)
      refine wpAnyH_take (i := 3) (v := .int .i64 X) rfl (by kernel_rfl) (by kernel_rfl) (by kernel_rfl) (fun _ _ _ h => h) (Or.inl ⟨by kernel_rfl, fun w hS => by go_simp⟩) hd2 ?_
      change wpAnyH _ _ _ _ _ _ _ (Act.put _ (some 23) (.int .i64 X)) _
      simp only [Act.put, List.setIfInBounds_toArray, List.set_cons_zero, List.set_cons_succ]
      refine wpAnyH_ready (rs := [5]) (by kernel_rfl) (by simp) ?_
      refine AllReadyH.cons rfl (fun K hK => ?_) AllReadyH.nil
      go_simp
      go_at_call 45
      refine (pick_calls g _ 6 _ (by exact R5.out) (by omega) (by omega) (by omega)).mono ?_
      rintro e w6 ⟨z, rfl, z0, z1, rr, gg⟩
      have B6 := Lib.hid (Below.trans B5.out (grown_below gg hg (B5.out).size))
      have hd2 := hd
      clear rr gg
      obtain ⟨Q, hQ⟩ : ∃ Q, IntKind.i64.wrap (z.tdiv 5) = Q := ⟨_, rfl⟩
      obtain ⟨Y, hY⟩ : ∃ Y, IntKind.i64.wrap (X * Q) = Y := ⟨_, rfl⟩
      obtain ⟨Z, hZ⟩ : ∃ Z, bits .xor .i64 s Y = Z := ⟨_, rfl⟩
      refine hK.out _ _ hd2 (fun _ => ?_)
      refine wpAnyH_take (i := 6) (v := .int .i64 Q) rfl (by kernel_rfl) (by kernel_rfl) (by kernel_rfl) (fun _ _ _ h => h) (Or.inl ⟨by kernel_rfl, fun w hS => by go_simp⟩) hd2 ?_
      change wpAnyH _ _ _ _ _ _ _ (Act.put _ (some 26) (.int .i64 Q)) _
      simp only [Act.put, List.setIfInBounds_toArray, List.set_cons_zero, List.set_cons_succ]
      refine wpAnyH_take (i := 7) (v := .int .i64 Y) rfl (by kernel_rfl) (by kernel_rfl) (by kernel_rfl) (fun _ _ _ h => h) (Or.inl ⟨by kernel_rfl, fun w hS => by go_simp⟩) hd2 ?_
      change wpAnyH _ _ _ _ _ _ _ (Act.put _ (some 27) (.int .i64 Y)) _
      simp only [Act.put, List.setIfInBounds_toArray, List.set_cons_zero, List.set_cons_succ]
      refine wpAnyH_take (i := 8) (v := .int .i64 Z) rfl (by kernel_rfl) (by kernel_rfl) (by kernel_rfl) (fun _ _ _ h => h) (Or.inl ⟨by kernel_rfl, fun w hS => by go_simp⟩) hd2 ?_
      change wpAnyH _ _ _ _ _ _ _ (Act.put _ (some 28) (.int .i64 Z)) _
      simp only [Act.put, List.setIfInBounds_toArray, List.set_cons_zero, List.set_cons_succ]
      refine wpAnyH_take (i := 9) (v := .int .i64 Z) rfl (by kernel_rfl) (by kernel_rfl) (by kernel_rfl) (fun _ _ _ h => h) (Or.inl ⟨by kernel_rfl, fun w hS => by go_simp⟩) hd2 ?_
      change wpAnyH _ _ _ _ _ _ _ (Act.put _ (some 2) (.int .i64 Z)) _
      simp only [Act.put, List.setIfInBounds_toArray, List.set_cons_zero, List.set_cons_succ]
      refine wpAnyH_done (by kernel_rfl) ?_ _
      go_wp2_with fail
      go_ret
      exact ⟨_, rfl, B6.out⟩
    · go_wp2_with fail
      refine (l91Word_calls g _ _ R4.out (by omega)).mono ?_
      rintro e w5 ⟨u, q4, rfl, u0, u1, _, r5, g5⟩
      go_wp2_with fail
      go_ret
      exact ⟨_, rfl, B4.out.trans (grown_below g5 hg B4.out.size)⟩
end Go.Proofs.YtepaaijlkimmeaaDoor
