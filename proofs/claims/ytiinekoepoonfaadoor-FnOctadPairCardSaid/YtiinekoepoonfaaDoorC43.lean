/- Drawing two octads. -/
import Derived.Test.YtiinekoepoonfaaDoorC42
import Derived.Test.YtiinekoepoonfaaDoorM8
import Derived.Deep.RegionHeld3
namespace Go.Proofs.YtiinekoepoonfaaDoor
open Go.RowKit
set_option linter.unusedVariables false
attribute [local irreducible] octS cN octF

theorem and_mask (a : Int) (h0 : -1 ≤ a) (h1 : a ≤ 16777216) : ∃ M : Nat, bits .and .i64 a 16777215 = (M : Int) ∧ M ≤ 16777215 := by
  by_cases hm : a = -1
  · subst hm; exact ⟨16777215, by kernel_rfl, by omega⟩
  · by_cases hx : a = 16777216
    · subst hx; exact ⟨0, by kernel_rfl, by omega⟩
    · rw [and_i64 a 16777215 (by omega) (by omega) (by omega) (by omega)]
      exact ⟨_, rfl, by have := andI_le a 16777215 (by omega); unfold andI at this; omega⟩
theorem pl_four (M : Nat) (h : 4 ≤ (plI M).length) : ∃ p0 p1 p2 p3 : Int, (plI M).getD 0 0 = p0 ∧ (plI M).getD 1 0 = p1 ∧ (plI M).getD 2 0 = p2 ∧ (plI M).getD 3 0 = p3 ∧ 0 ≤ p0 ∧ p0 < p1 ∧ p1 < p2 ∧ p2 < p3 ∧ p3 ≤ 23 := by
  refine ⟨_, _, _, _, rfl, rfl, rfl, rfl, ?_, plI_asc M 0 (by omega), plI_asc M 1 (by omega), plI_asc M 2 (by omega), ?_⟩
  · have hm : (plI M).getD 0 0 ∈ plI M := by
      rw [← getD_at (plI M) 0 (by omega)]
      exact List.getElem_mem _
    unfold plI at hm
    obtain ⟨x, _, e⟩ := List.mem_map.1 hm
    unfold plI
    omega
  · have hm : (plI M).getD 3 0 ∈ plI M := by
      rw [← getD_at (plI M) 3 (by omega)]
      exact List.getElem_mem _
    unfold plI at hm
    obtain ⟨x, hx, e⟩ := List.mem_map.1 hm
    have := pl_lt M x hx
    unfold plI
    omega
theorem pow_step (p q : Int) (h0 : 0 ≤ p) (h : p < q) : 2 * powI p ≤ powI q := by
  unfold powI
  obtain ⟨P, rfl⟩ := Int.eq_ofNat_of_zero_le h0
  obtain ⟨Q, rfl⟩ := Int.eq_ofNat_of_zero_le (show 0 ≤ q by omega)
  simp only [Int.toNat_natCast]
  have h1 : (2 : Nat) ^ (P + 1) ≤ 2 ^ Q := Nat.pow_le_pow_right (by decide) (by omega)
  have h2 : (((2 : Nat) ^ (P + 1) : Nat) : Int) ≤ ((2 ^ Q : Nat) : Int) := by omega
  rw [Nat.pow_succ] at h2
  push_cast at h2
  omega
theorem pow_sum (p0 p1 p2 p3 : Int) (h0 : 0 ≤ p0) (h1 : p0 < p1) (h2 : p1 < p2) (h3 : p2 < p3) (h4 : p3 ≤ 23) :
    0 < powI p0 ∧ 0 < powI p1 ∧ 0 < powI p2 ∧ 0 < powI p3 ∧ powI p0 + powI p1 + powI p2 + powI p3 ≤ 16777215 := by
  have a := pow_step p0 p1 h0 h1
  have b := pow_step p1 p2 (by omega) h2
  have c := pow_step p2 p3 (by omega) h3
  have d := powI_le p3 (by omega) h4
  have q0 := powI_pos p0
  have q1 := powI_pos p1
  have q2 := powI_pos p2
  have q3 := powI_pos p3
  omega
theorem own_blk5 {A : World} {B : Nat} {Ad : Option Addr} {n c : Nat} {xs : List Int} (h : Own A B (.slice Ad n c) xs) : ∀ ad, Ad = some ad → B ≤ ad.block := own_lo' h
set_option maxRecDepth 100000 in
set_option maxHeartbeats 400000 in
theorem DrawOctadPair_calls (A : Option Addr) (c : Nat) (bs : List Int) (w : World) (hr : Rds w w.heap.size .u8 A bs) (hc : bs.length ≤ c) (hm : c ≤ maxLen) (hv : ∀ i, 0 ≤ bs.getD i 0 ∧ bs.getD i 0 ≤ 255) :
    Calls Tryd.prog 17 #[.slice A bs.length c] w fun e w' => ∃ a b : Int, e = .returned (.tuple #[.int .i64 a, .int .i64 b]) ∧ Below w.heap.size w w' := by
  go_enter Tryd.func17, Tryd.ntmps17
  go_wp2_with fail
  refine (l6Open_calls A c bs _ hr hc hm hv).mono ?_
  rintro e w1 ⟨g, rfl, hg, r1, b1⟩
  go_wp2_with fail
  refine (l91Octad_calls g 0 _ r1 (by omega)).mono ?_
  rintro e w2 ⟨a, q1, rfl, a0, a1, hq1, r2, g2⟩
  have HB2 := Lib.hid (b1.trans (grown_below g2 hg b1.size))
  obtain ⟨M, hM, hM2⟩ := and_mask a a0 a1
  clear b1 g2 r1
  go_wp2_with fail
  refine (l1Places_calls M _).mono ?_
  rintro e w3 ⟨v, rfl, o3, b3⟩
  have HB3 := Lib.hid (HB2.out.trans (b3.mono HB2.out.size))
  have R3 := Lib.hid (r2.below b3)
  have hgs : g < w2.heap.size := r2.lt
  have hs3 : w.heap.size ≤ w3.heap.size := HB3.out.size
  clear b3 r2
  obtain ⟨A3, c3, rfl⟩ := o3.slice
  have HO3 := Lib.hid o3
  clear o3
  by_cases h4 : (plI M).length < 4
  · go_wp2_with fail
    refine (l91Octad_calls g q1 _ R3.out (by omega)).mono ?_
    rintro e w4 ⟨b, q2, rfl, b0, b1, hq2, r4, g4⟩
    go_wp2_with fail
    go_ret2
    exact ⟨_, _, rfl, HB3.out.trans (grown_below g4 hg hs3)⟩
  have h4' : ¬ ((plI M).length : Int) < 4 := by omega
  go_wp2_with fail
  refine (pick_calls g q1 3 _ R3.out (by omega) (by omega) (by omega)).mono ?_
  rintro e w4 ⟨z, rfl, z0, z1, r4, g4⟩
  have HB4 := Lib.hid (HB3.out.trans (grown_below g4 hg hs3))
  have hs4 : w.heap.size ≤ w4.heap.size := HB4.out.size
  by_cases hz : z = 0
  · subst hz
    go_wp2_with fail
    refine (l91Octad_calls g _ _ r4 (by omega)).mono ?_
    rintro e w5 ⟨b, q2, rfl, b0, b1, hq2, r5, g5⟩
    go_wp2_with fail
    go_ret2
    exact ⟨_, _, rfl, HB4.out.trans (grown_below g5 hg hs4)⟩
  have hz1 : (z == 0) = false := by simpa using hz
  clear hz
  have o4 := HO3.out.grownG g4 hgs
  obtain ⟨p0, p1, p2, p3, e0, e1, e2, e3, k0, k1, k2, k3, k4⟩ := pl_four M (by omega)
  obtain ⟨P0, P1, P2, P3, w0e, w1e, w2e, w3e, s0, s1, s2, s3, hsum⟩ : ∃ P0 P1 P2 P3 : Int, wrap64 (2 ^ p0.toNat) = P0 ∧ wrap64 (2 ^ p1.toNat) = P1 ∧ wrap64 (2 ^ p2.toNat) = P2 ∧ wrap64 (2 ^ p3.toNat) = P3 ∧ 0 < P0 ∧ 0 < P1 ∧ 0 < P2 ∧ 0 < P3 ∧ P0 + P1 + P2 + P3 ≤ 16777215 := by
    obtain ⟨s0, s1, s2, s3, hs⟩ := pow_sum p0 p1 p2 p3 k0 k1 k2 k3 k4
    exact ⟨_, _, _, _, IntWalk.wrap64_in (powI p0) (by omega), IntWalk.wrap64_in (powI p1) (by omega), IntWalk.wrap64_in (powI p2) (by omega), IntWalk.wrap64_in (powI p3) (by omega), s0, s1, s2, s3, hs⟩
  obtain ⟨gl, cl, hAl⟩ : ∃ gl cl, Value.slice A3 (plI M).length c3 = .slice (some ⟨gl, 0, none⟩) (plI M).length cl := by
    rcases o4.form with ⟨_, h0⟩ | ⟨gl, cap, h0, _⟩
    · rw [h0] at h4; simp at h4
    · exact ⟨gl, cap, h0⟩
  simp only [Value.slice.injEq] at hAl
  obtain ⟨rfl, _, rfl⟩ := hAl
  have hc0 := o4.cell (j := 0) (by omega)
  have hc1 := o4.cell (j := 1) (by omega)
  have hc2 := o4.cell (j := 2) (by omega)
  have hc3 := o4.cell (j := 3) (by omega)
  rw [e0] at hc0
  rw [e1] at hc1
  rw [e2] at hc2
  rw [e3] at hc3
  have R4 := Lib.hid r4
  have hgs4 : g < w4.heap.size := r4.lt
  have hnl : 4 ≤ (plI M).length := by omega
  clear o4 g4 r4 R3 HO3 e0 e1 e2 e3 h4
  have hl0 : (0 : Int) < ((plI M).length : Int) := by omega
  have hl1 : (1 : Int) < ((plI M).length : Int) := by omega
  have hl2 : (2 : Int) < ((plI M).length : Int) := by omega
  have hl3 : (3 : Int) < ((plI M).length : Int) := by omega
  generalize (plI M).length = n at *
  have x0 : 0 ≤ p0 := k0
  have x1 : 0 ≤ p1 := by omega
  have x2 : 0 ≤ p2 := by omega
  have x3 : 0 ≤ p3 := by omega
  go_wp2_with fail
  have hm0 : 0 < n := by omega
  have hm1 : 1 < n := by omega
  have hm2 : 2 < n := by omega
  have hm3 : 3 < n := by omega
  have hnn : (0 : Int) ≤ (n : Int) := by omega
  have hPW : IsW (P0 + P1 + P2 + P3) := ⟨by omega, hsum⟩
  have hgl4 : gl < w4.heap.size := World.block_lt_of_cell? w4 ⟨gl, 0, none⟩ hc0
  have v0 : IntKind.i64.wrap (2 ^ p0.toNat) = P0 := by have h := w0e; unfold wrap64 at h; rw [IntKind.wrap_i64]; exact h
  have v1 : IntKind.i64.wrap (2 ^ p1.toNat) = P1 := by have h := w1e; unfold wrap64 at h; rw [IntKind.wrap_i64]; exact h
  have v2 : IntKind.i64.wrap (2 ^ p2.toNat) = P2 := by have h := w2e; unfold wrap64 at h; rw [IntKind.wrap_i64]; exact h
  have v3 : IntKind.i64.wrap (2 ^ p3.toNat) = P3 := by have h := w3e; unfold wrap64 at h; rw [IntKind.wrap_i64]; exact h
  have u1 : IntKind.i64.wrap (P0 + P1) = P0 + P1 := by rw [IntKind.wrap_i64]; omega
  have u2 : IntKind.i64.wrap (P0 + P1 + P2) = P0 + P1 + P2 := by rw [IntKind.wrap_i64]; omega
  have u3 : IntKind.i64.wrap (P0 + P1 + P2 + P3) = P0 + P1 + P2 + P3 := by rw [IntKind.wrap_i64]; omega
  refine wp_region_held_drew (S := fun w' => w'.cell? ⟨gl, 0, none⟩ = some (.int .i64 p0) ∧ w'.cell? ⟨gl, 1, none⟩ = some (.int .i64 p1) ∧ w'.cell? ⟨gl, 2, none⟩ = some (.int .i64 p2) ∧ w'.cell? ⟨gl, 3, none⟩ = some (.int .i64 p3)) (by kernel_rfl) ⟨hc0, hc1, hc2, hc3⟩ (fun hd => ?_)
  refine wpAnyH_take (i := 0) (v := .slice (some ⟨gl, 0, none⟩) n c3) rfl (by kernel_rfl) (by kernel_rfl) (by kernel_rfl) (fun _ _ _ h => h) (Or.inl ⟨by kernel_rfl, fun w _ => by kernel_rfl⟩) hd ?_
  change wpAnyH _ _ _ _ _ _ _ (Act.put _ (some 26) (.slice (some ⟨gl, 0, none⟩) n c3)) _
  simp only [Act.put, List.setIfInBounds_toArray, List.set_cons_zero, List.set_cons_succ]
  refine wpAnyH_take (i := 1) (v := .pointer (some ⟨gl, 0, none⟩)) rfl (by kernel_rfl) (by kernel_rfl) (by kernel_rfl) (fun _ _ _ h => h) (Or.inl ⟨by kernel_rfl, fun w hS => by go_simp⟩) hd ?_
  change wpAnyH _ _ _ _ _ _ _ (Act.put _ (some 27) (.pointer (some ⟨gl, 0, none⟩))) _
  simp only [Act.put, List.setIfInBounds_toArray, List.set_cons_zero, List.set_cons_succ]
  refine wpAnyH_take (i := 2) (v := .int .i64 p0) rfl (by kernel_rfl) (by kernel_rfl) (by kernel_rfl) (fun _ _ _ h => h) (Or.inl ⟨by kernel_rfl, fun w hS => by have hS1 := hS.1; have hS2 := hS.2.1; have hS3 := hS.2.2.1; have hS4 := hS.2.2.2; go_simp⟩) hd ?_
  change wpAnyH _ _ _ _ _ _ _ (Act.put _ (some 28) (.int .i64 p0)) _
  simp only [Act.put, List.setIfInBounds_toArray, List.set_cons_zero, List.set_cons_succ]
  refine wpAnyH_take (i := 3) (v := .int .i64 P0) rfl (by kernel_rfl) (by kernel_rfl) (by kernel_rfl) (fun _ _ _ h => h) (Or.inl ⟨by kernel_rfl, fun w hS => by go_simp⟩) hd ?_
  change wpAnyH _ _ _ _ _ _ _ (Act.put _ (some 29) (.int .i64 P0)) _
  simp only [Act.put, List.setIfInBounds_toArray, List.set_cons_zero, List.set_cons_succ]
  refine wpAnyH_take (i := 4) (v := .slice (some ⟨gl, 0, none⟩) n c3) rfl (by kernel_rfl) (by kernel_rfl) (by kernel_rfl) (fun _ _ _ h => h) (Or.inl ⟨by kernel_rfl, fun w _ => by kernel_rfl⟩) hd ?_
  change wpAnyH _ _ _ _ _ _ _ (Act.put _ (some 30) (.slice (some ⟨gl, 0, none⟩) n c3)) _
  simp only [Act.put, List.setIfInBounds_toArray, List.set_cons_zero, List.set_cons_succ]
  refine wpAnyH_take (i := 5) (v := .pointer (some ⟨gl, 1, none⟩)) rfl (by kernel_rfl) (by kernel_rfl) (by kernel_rfl) (fun _ _ _ h => h) (Or.inl ⟨by kernel_rfl, fun w hS => by go_simp⟩) hd ?_
  change wpAnyH _ _ _ _ _ _ _ (Act.put _ (some 31) (.pointer (some ⟨gl, 1, none⟩))) _
  simp only [Act.put, List.setIfInBounds_toArray, List.set_cons_zero, List.set_cons_succ]
  refine wpAnyH_take (i := 6) (v := .int .i64 p1) rfl (by kernel_rfl) (by kernel_rfl) (by kernel_rfl) (fun _ _ _ h => h) (Or.inl ⟨by kernel_rfl, fun w hS => by have hS1 := hS.1; have hS2 := hS.2.1; have hS3 := hS.2.2.1; have hS4 := hS.2.2.2; go_simp⟩) hd ?_
  change wpAnyH _ _ _ _ _ _ _ (Act.put _ (some 32) (.int .i64 p1)) _
  simp only [Act.put, List.setIfInBounds_toArray, List.set_cons_zero, List.set_cons_succ]
  refine wpAnyH_take (i := 7) (v := .int .i64 P1) rfl (by kernel_rfl) (by kernel_rfl) (by kernel_rfl) (fun _ _ _ h => h) (Or.inl ⟨by kernel_rfl, fun w hS => by go_simp⟩) hd ?_
  change wpAnyH _ _ _ _ _ _ _ (Act.put _ (some 33) (.int .i64 P1)) _
  simp only [Act.put, List.setIfInBounds_toArray, List.set_cons_zero, List.set_cons_succ]
  refine wpAnyH_take (i := 8) (v := .int .i64 (P0 + P1)) rfl (by kernel_rfl) (by kernel_rfl) (by kernel_rfl) (fun _ _ _ h => h) (Or.inl ⟨by kernel_rfl, fun w hS => by go_simp⟩) hd ?_
  change wpAnyH _ _ _ _ _ _ _ (Act.put _ (some 34) (.int .i64 (P0 + P1))) _
  simp only [Act.put, List.setIfInBounds_toArray, List.set_cons_zero, List.set_cons_succ]
  refine wpAnyH_take (i := 9) (v := .slice (some ⟨gl, 0, none⟩) n c3) rfl (by kernel_rfl) (by kernel_rfl) (by kernel_rfl) (fun _ _ _ h => h) (Or.inl ⟨by kernel_rfl, fun w _ => by kernel_rfl⟩) hd ?_
  change wpAnyH _ _ _ _ _ _ _ (Act.put _ (some 35) (.slice (some ⟨gl, 0, none⟩) n c3)) _
  simp only [Act.put, List.setIfInBounds_toArray, List.set_cons_zero, List.set_cons_succ]
  refine wpAnyH_take (i := 10) (v := .pointer (some ⟨gl, 2, none⟩)) rfl (by kernel_rfl) (by kernel_rfl) (by kernel_rfl) (fun _ _ _ h => h) (Or.inl ⟨by kernel_rfl, fun w hS => by go_simp⟩) hd ?_
  change wpAnyH _ _ _ _ _ _ _ (Act.put _ (some 36) (.pointer (some ⟨gl, 2, none⟩))) _
  simp only [Act.put, List.setIfInBounds_toArray, List.set_cons_zero, List.set_cons_succ]
  refine wpAnyH_take (i := 11) (v := .int .i64 p2) rfl (by kernel_rfl) (by kernel_rfl) (by kernel_rfl) (fun _ _ _ h => h) (Or.inl ⟨by kernel_rfl, fun w hS => by have hS1 := hS.1; have hS2 := hS.2.1; have hS3 := hS.2.2.1; have hS4 := hS.2.2.2; go_simp⟩) hd ?_
  change wpAnyH _ _ _ _ _ _ _ (Act.put _ (some 37) (.int .i64 p2)) _
  simp only [Act.put, List.setIfInBounds_toArray, List.set_cons_zero, List.set_cons_succ]
  refine wpAnyH_take (i := 12) (v := .int .i64 P2) rfl (by kernel_rfl) (by kernel_rfl) (by kernel_rfl) (fun _ _ _ h => h) (Or.inl ⟨by kernel_rfl, fun w hS => by go_simp⟩) hd ?_
  change wpAnyH _ _ _ _ _ _ _ (Act.put _ (some 38) (.int .i64 P2)) _
  simp only [Act.put, List.setIfInBounds_toArray, List.set_cons_zero, List.set_cons_succ]
  refine wpAnyH_take (i := 13) (v := .int .i64 (P0 + P1 + P2)) rfl (by kernel_rfl) (by kernel_rfl) (by kernel_rfl) (fun _ _ _ h => h) (Or.inl ⟨by kernel_rfl, fun w hS => by go_simp⟩) hd ?_
  change wpAnyH _ _ _ _ _ _ _ (Act.put _ (some 39) (.int .i64 (P0 + P1 + P2))) _
  simp only [Act.put, List.setIfInBounds_toArray, List.set_cons_zero, List.set_cons_succ]
  refine wpAnyH_take (i := 14) (v := .slice (some ⟨gl, 0, none⟩) n c3) rfl (by kernel_rfl) (by kernel_rfl) (by kernel_rfl) (fun _ _ _ h => h) (Or.inl ⟨by kernel_rfl, fun w _ => by kernel_rfl⟩) hd ?_
  change wpAnyH _ _ _ _ _ _ _ (Act.put _ (some 40) (.slice (some ⟨gl, 0, none⟩) n c3)) _
  simp only [Act.put, List.setIfInBounds_toArray, List.set_cons_zero, List.set_cons_succ]
  refine wpAnyH_take (i := 15) (v := .pointer (some ⟨gl, 3, none⟩)) rfl (by kernel_rfl) (by kernel_rfl) (by kernel_rfl) (fun _ _ _ h => h) (Or.inl ⟨by kernel_rfl, fun w hS => by go_simp⟩) hd ?_
  change wpAnyH _ _ _ _ _ _ _ (Act.put _ (some 41) (.pointer (some ⟨gl, 3, none⟩))) _
  simp only [Act.put, List.setIfInBounds_toArray, List.set_cons_zero, List.set_cons_succ]
  refine wpAnyH_take (i := 16) (v := .int .i64 p3) rfl (by kernel_rfl) (by kernel_rfl) (by kernel_rfl) (fun _ _ _ h => h) (Or.inl ⟨by kernel_rfl, fun w hS => by have hS1 := hS.1; have hS2 := hS.2.1; have hS3 := hS.2.2.1; have hS4 := hS.2.2.2; go_simp⟩) hd ?_
  change wpAnyH _ _ _ _ _ _ _ (Act.put _ (some 42) (.int .i64 p3)) _
  simp only [Act.put, List.setIfInBounds_toArray, List.set_cons_zero, List.set_cons_succ]
  refine wpAnyH_take (i := 17) (v := .int .i64 P3) rfl (by kernel_rfl) (by kernel_rfl) (by kernel_rfl) (fun _ _ _ h => h) (Or.inl ⟨by kernel_rfl, fun w hS => by go_simp⟩) hd ?_
  change wpAnyH _ _ _ _ _ _ _ (Act.put _ (some 43) (.int .i64 P3)) _
  simp only [Act.put, List.setIfInBounds_toArray, List.set_cons_zero, List.set_cons_succ]
  refine wpAnyH_take (i := 18) (v := .int .i64 (P0 + P1 + P2 + P3)) rfl (by kernel_rfl) (by kernel_rfl) (by kernel_rfl) (fun _ _ _ h => h) (Or.inl ⟨by kernel_rfl, fun w hS => by go_simp⟩) hd ?_
  change wpAnyH _ _ _ _ _ _ _ (Act.put _ (some 44) (.int .i64 (P0 + P1 + P2 + P3))) _
  simp only [Act.put, List.setIfInBounds_toArray, List.set_cons_zero, List.set_cons_succ]
  refine wpAnyH_ready (rs := [19]) (by kernel_rfl) (by simp) ?_
  refine AllReadyH.cons rfl (fun K hK => ?_) AllReadyH.nil
  go_simp
  go_at_call 44
  refine (l4With_calls (P0 + P1 + P2 + P3) _ hPW).mono ?_
  rintro e w5 ⟨v5, rfl, o5, b5⟩
  obtain ⟨A5, c5, rfl⟩ := o5.slice
  have hd2 := And.intro ((b5.cell (p := ⟨gl, 0, none⟩) hgl4).trans hc0) (And.intro ((b5.cell (p := ⟨gl, 1, none⟩) hgl4).trans hc1) (And.intro ((b5.cell (p := ⟨gl, 2, none⟩) hgl4).trans hc2) ((b5.cell (p := ⟨gl, 3, none⟩) hgl4).trans hc3)))
  refine hK.out _ _ hd2 (fun _ => ?_)
  refine wpAnyH_take (i := 20) (v := .slice A5 (oWith (P0 + P1 + P2 + P3)).length c5) rfl (by kernel_rfl) (by kernel_rfl) (by kernel_rfl) (fun _ _ _ h => h) (Or.inl ⟨by kernel_rfl, fun w _ => by kernel_rfl⟩) hd2 ?_
  change wpAnyH _ _ _ _ _ _ _ (Act.put _ (some 7) (.slice A5 (oWith (P0 + P1 + P2 + P3)).length c5)) _
  simp only [Act.put, List.setIfInBounds_toArray, List.set_cons_zero, List.set_cons_succ]
  refine wpAnyH_done (by kernel_rfl) ?_ _
  have HB5 := Lib.hid (HB4.out.trans ((below_drewN (Below.refl w4.heap.size w4) 1).trans (b5.mono (by first | exact Nat.le_refl _ | simp)) |>.mono hs4))
  have HO5 := Lib.hid o5
  have R5 := Lib.hid (R4.out.below ((below_drewN (Below.refl w4.heap.size w4) 1).trans (b5.mono (by first | exact Nat.le_refl _ | simp))))
  have hgo := own_blk5 o5
  have hol := oWith_len (P0 + P1 + P2 + P3)
  clear b5 o5 hd hd2 hc0 hc1 hc2 hc3 w0e w1e w2e w3e v0 v1 v2 v3 u1 u2 u3
  generalize oWith (P0 + P1 + P2 + P3) = L at *
  have hs5 : w.heap.size ≤ w5.heap.size := HB5.out.size
  by_cases hL : L.length = 0
  · have hL1 : ((L.length : Int) == 0) = true := by simp [hL]
    go_wp2_with fail
    go_ret2
    exact ⟨_, _, rfl, HB5.out⟩
  have hL1 : ((L.length : Int) == 0) = false := beq_eq_false_iff_ne.2 (by omega)
  go_wp2_with fail
  obtain ⟨gz, hA5⟩ : ∃ gz, A5 = some ⟨gz, 0, none⟩ := by
    rcases HO5.out.form with ⟨h0, h1⟩ | ⟨gz, cap, h0, _⟩
    · rw [h1] at hL; exact absurd rfl hL
    · simp only [Value.slice.injEq] at h0; exact ⟨gz, h0.1⟩
  subst hA5
  have hgz : g < gz := by have := hgo _ rfl; simp at this; omega
  have hcells : ∀ j, j < L.length → w5.cell? ⟨gz, j, none⟩ = some (.int .i64 (L.getD j 0)) := fun j hj => HO5.out.cell hj
  have hnn : (0 : Int) ≤ (L.length : Int) := by omega
  have hnn1 : (1 : Int) ≤ (L.length : Int) := by omega
  have hgs5 : g < w5.heap.size := R5.out.lt
  refine wp_region_held_drew (S := fun w' => ∀ j, j < L.length → w'.cell? ⟨gz, j, none⟩ = some (.int .i64 (L.getD j 0))) (by kernel_rfl) hcells (fun hd => ?_)
  refine wpAnyH_take (i := 0) (v := .int .i64 a) rfl (by kernel_rfl) (by kernel_rfl) (by kernel_rfl) (fun _ _ _ h => h) (Or.inl ⟨by kernel_rfl, fun w _ => by kernel_rfl⟩) hd ?_
  change wpAnyH _ _ _ _ _ _ _ (Act.put _ (some 51) (.int .i64 a)) _
  simp only [Act.put, List.setIfInBounds_toArray, List.set_cons_zero, List.set_cons_succ]
  refine wpAnyH_take (i := 1) (v := .slice (some ⟨gz, 0, none⟩) L.length c5) rfl (by kernel_rfl) (by kernel_rfl) (by kernel_rfl) (fun _ _ _ h => h) (Or.inl ⟨by kernel_rfl, fun w _ => by kernel_rfl⟩) hd ?_
  change wpAnyH _ _ _ _ _ _ _ (Act.put _ (some 52) (.slice (some ⟨gz, 0, none⟩) L.length c5)) _
  simp only [Act.put, List.setIfInBounds_toArray, List.set_cons_zero, List.set_cons_succ]
  refine wpAnyH_take (i := 2) (v := .pointer (some ⟨g, 0, none⟩)) rfl (by kernel_rfl) (by kernel_rfl) (by kernel_rfl) (fun _ _ _ h => h) (Or.inl ⟨by kernel_rfl, fun w _ => by kernel_rfl⟩) hd ?_
  change wpAnyH _ _ _ _ _ _ _ (Act.put _ (some 53) (.pointer (some ⟨g, 0, none⟩))) _
  simp only [Act.put, List.setIfInBounds_toArray, List.set_cons_zero, List.set_cons_succ]
  refine wpAnyH_take (i := 3) (v := .slice (some ⟨gz, 0, none⟩) L.length c5) rfl (by kernel_rfl) (by kernel_rfl) (by kernel_rfl) (fun _ _ _ h => h) (Or.inl ⟨by kernel_rfl, fun w _ => by kernel_rfl⟩) hd ?_
  change wpAnyH _ _ _ _ _ _ _ (Act.put _ (some 54) (.slice (some ⟨gz, 0, none⟩) L.length c5)) _
  simp only [Act.put, List.setIfInBounds_toArray, List.set_cons_zero, List.set_cons_succ]
  refine wpAnyH_take (i := 4) (v := .int .i64 (L.length : Int)) rfl (by kernel_rfl) (by kernel_rfl) (by kernel_rfl) (fun _ _ _ h => h) (Or.inl ⟨by kernel_rfl, fun w _ => by kernel_rfl⟩) hd ?_
  change wpAnyH _ _ _ _ _ _ _ (Act.put _ (some 55) (.int .i64 (L.length : Int))) _
  simp only [Act.put, List.setIfInBounds_toArray, List.set_cons_zero, List.set_cons_succ]
  refine wpAnyH_ready (rs := [5]) (by kernel_rfl) (by simp) ?_
  refine AllReadyH.cons rfl (fun K hK => ?_) AllReadyH.nil
  go_simp
  go_at_call 33
  refine (pick_calls g (q1 + 1) (L.length : Int) _ (by exact R5.out) (by omega) (by omega) (by omega)).mono ?_
  rintro e w6 ⟨zz, rfl, zz0, zz1, r6, g6⟩
  have hd2 : ∀ j, j < L.length → w6.cell? ⟨gz, j, none⟩ = some (.int .i64 (L.getD j 0)) := fun j hj => (World.cell?_of_block (g6.block gz (World.block_lt_of_cell? w5 ⟨gz, j, none⟩ (hcells j hj)) (fun e => by simp at e; omega))).trans (hcells j hj)
  have HB6 := Lib.hid (HB5.out.trans (((Below.refl w.heap.size w5).drew).trans (grown_below g6 hg hs5)))
  obtain ⟨jz, rfl⟩ := Int.eq_ofNat_of_zero_le zz0
  have hjz : jz < L.length := by omega
  have hjz1 : (jz : Int) < (L.length : Int) := by omega
  refine hK.out _ _ hd2 (fun _ => ?_)
  refine wpAnyH_take (i := 6) (v := .pointer (some ⟨gz, jz, none⟩)) rfl (by kernel_rfl) (by kernel_rfl) (by kernel_rfl) (fun _ _ _ h => h) (Or.inl ⟨by kernel_rfl, fun w hS => by go_simp⟩) hd2 ?_
  change wpAnyH _ _ _ _ _ _ _ (Act.put _ (some 57) (.pointer (some ⟨gz, jz, none⟩))) _
  simp only [Act.put, List.setIfInBounds_toArray, List.set_cons_zero, List.set_cons_succ]
  refine wpAnyH_take (i := 7) (v := .int .i64 (L.getD jz 0)) rfl (by kernel_rfl) (by kernel_rfl) (by kernel_rfl) (fun _ _ _ h => h) (Or.inl ⟨by kernel_rfl, fun w hS => by have hS1 := hS jz hjz; go_simp⟩) hd2 ?_
  change wpAnyH _ _ _ _ _ _ _ (Act.put _ (some 58) (.int .i64 (L.getD jz 0))) _
  simp only [Act.put, List.setIfInBounds_toArray, List.set_cons_zero, List.set_cons_succ]
  refine wpAnyH_take (i := 8) (v := .int .i64 a) rfl (by kernel_rfl) (by kernel_rfl) (by kernel_rfl) (fun _ _ _ h => h) (Or.inl ⟨by kernel_rfl, fun w _ => by kernel_rfl⟩) hd2 ?_
  change wpAnyH _ _ _ _ _ _ _ (Act.put _ (some 2) (.int .i64 a)) _
  simp only [Act.put, List.setIfInBounds_toArray, List.set_cons_zero, List.set_cons_succ]
  refine wpAnyH_take (i := 9) (v := .int .i64 (L.getD jz 0)) rfl (by kernel_rfl) (by kernel_rfl) (by kernel_rfl) (fun _ _ _ h => h) (Or.inl ⟨by kernel_rfl, fun w _ => by kernel_rfl⟩) hd2 ?_
  change wpAnyH _ _ _ _ _ _ _ (Act.put _ (some 3) (.int .i64 (L.getD jz 0))) _
  simp only [Act.put, List.setIfInBounds_toArray, List.set_cons_zero, List.set_cons_succ]
  refine wpAnyH_done (by kernel_rfl) ?_ _
  go_wp2_with fail
  go_ret2
  exact ⟨_, _, rfl, HB6.out⟩
end Go.Proofs.YtiinekoepoonfaaDoor
