/- The walk of the promise of the lines through a point. -/
import Derived.Test.YtmeejnkpaiinaacGreatDoorR1
import Derived.Test.YtmeejnkpaiinaacGreatDoorQ9
import Derived.Test.YtmeejnkpaiinaacGreatDoorC148
import Derived.Test.YtmeejnkpaiinaacGreatDoorM41
import Derived.Test.YtmeejnkpaiinaacGreatDoorQ1
namespace Go.Proofs.YtmeejnkpaiinaacGreatDoor
open Go.RowKit
set_option linter.unusedVariables false
attribute [local irreducible] octS cN octF syn

theorem plOn_cases (b p : Int) : plOn b p = ([], false) ∨ ∃ (B P : Nat) (zs : List Int), b = (B : Int) ∧ p = (P : Int) ∧ P < 24 ∧ B < 16777216 ∧ plOn b p = (zs, true) ∧ zs.length = 5 ∧ (∀ j, j < 5 → IsW (zs.getD j 0) ∧ zs.getD j 0 / 2 ^ P % 2 = 1) ∧ (∀ i j, i < j → j < 5 → zs.getD i 0 < zs.getD j 0) ∧ allTo zs 5 = xorI b 16777215 := by
  rcases hb : baseB b with _ | _
  · left; simp [plOn, hb]
  rcases h1 : ptB b p with _ | _
  · left; simp [plOn, h1]
  right
  obtain ⟨B, rfl, hB⟩ := baseB_nat hb
  obtain ⟨P, rfl, hp, bp⟩ := ptB_nat h1
  obtain ⟨f1, f2, f3, f4⟩ := on_facts hB hp bp _ rfl
  refine ⟨B, P, (lns (B : Int)).filter (hasB ((2 ^ P : Nat) : Int)), rfl, rfl, hp, hB.1, ?_, f1, fun j hj => ?_, f3, ?_⟩
  · unfold plOn; rw [hb, h1, powI_nat]; rfl
  · obtain ⟨l, h2, h3, h4⟩ := f2 j hj
    have := (h3.facts hB).1
    rw [h2]
    exact ⟨⟨by omega, by omega⟩, bit_in l P h4⟩
  · rw [f4]; unfold xorI; rw [Int.toNat_natCast]; rfl
set_option maxHeartbeats 4000000 in
theorem walk_FnOn (a0 : Option Addr) (len0 cap0 : Nat) (z0 : List Int) (w : World) (w0 : IsRow .u8 w a0 len0 cap0 z0) (hT : Tab2E w) :
    Calls Tryz.prog 4 #[.slice a0 len0 cap0] w fun e w' => e = .returned (.bool true) ∧ Below w.heap.size w w' := by
  obtain ⟨bs, rfl, hr, hc, hm, hv⟩ := w0.bytes
  have hm' := hm
  unfold maxLen at hm'
  by_cases hbig : 1048576 < bs.length
  · go_enter Tryz.func4, Tryz.ntmps4
    go_wp2_with fail
    go_ret
    exact ⟨rfl, Below.refl _ _⟩
  have hbig' : bs.length ≤ 1048576 := by omega
  clear hbig
  go_enter Tryz.func4, Tryz.ntmps4
  go_wp2_with fail
  refine (DrawPlaneOn_calls _ _ bs _ hr hc hm hv).mono ?_
  rintro e w1 ⟨b, x, rfl, b1⟩
  have B0 := Lib.hid (b1)
  rcases plOn_cases b x with H0 | ⟨B, P, zs, rfl, rfl, hP, hBl, H0, hlen, hall, hasc, hun⟩
  · have H := Lib.hid H0
    clear H0
    go_wp2_with fail
    refine (iPlaneOn_calls b x _ (hT.below (B0.out) hT.lt).two (hT.below (B0.out) hT.lt).hand).mono ?_
    rintro e w1_ ⟨v1_, he, o1_, b1_⟩
    rw [H.out] at he o1_
    dsimp only at he o1_
    subst he
    obtain ⟨Ax, cx, rfl⟩ := o1_.slice
    have B1 := Lib.hid ((B0.out).trans (b1_.mono (B0.out).size))
    have Ox1 := Lib.hid (o1_.weak (B0.out).size)
    go_wp2_with fail
    refine (sPlaneOn_calls b x _).mono ?_
    rintro e w2_ ⟨v2_, he, o2_, b2_⟩
    rw [H.out] at he o2_
    dsimp only at he o2_
    subst he
    obtain ⟨Ay, cy, rfl⟩ := o2_.slice
    have B2 := Lib.hid ((B1.out).trans (b2_.mono (B1.out).size))
    have Ox2 := Lib.hid ((Ox1.out).below b2_)
    have Oy2 := Lib.hid (o2_.weak (B1.out).size)
    go_wp2_with fail
    refine (sameInts_calls _ _ _ _ [] [] _ (Ox2.out).rds (Oy2.out).rds (Ox2.out).len_le (Oy2.out).len_le).mono ?_
    rintro e w' ⟨he, k3_, rfl⟩
    rw [eqL_refl] at he
    subst he
    have B3 := Lib.hid (below_drewN (B2.out) k3_)
    have Ox3 := Lib.hid ((Ox2.out).drewN k3_)
    have Oy3 := Lib.hid ((Oy2.out).drewN k3_)
    go_wp2_with fail
    refine (sameInts_calls _ _ _ _ [] [] _ (Ox3.out).rds (Oy3.out).rds (Ox3.out).len_le (Oy3.out).len_le).mono ?_
    rintro e w' ⟨he, k4_, rfl⟩
    rw [eqL_refl] at he
    subst he
    have B4 := Lib.hid (below_drewN (B3.out) k4_)
    go_wp2_with fail
    go_ret
    first | exact ⟨rfl, B4.out⟩ | exact ⟨rfl, by have hB := B4.out; simp only [World.drewN_drewN] at hB; exact hB⟩
  · have H := Lib.hid H0
    have HLEN := Lib.hid hlen
    have HALL := Lib.hid hall
    have HASC := Lib.hid hasc
    have hx0 : bits .xor .i64 (B : Int) 16777215 = xorI (B : Int) 16777215 := xor_i64 _ _ (by omega) (by omega) (by omega) (by omega)
    have HUN := Lib.hid hun
    have HAW := Lib.hid (fun k (hk : k ≤ 5) => allTo_W zs (fun j hj => by rw [hlen] at hj; exact (hall j hj).1) k (by omega))
    have hP0 : (0 : Int) ≤ (P : Int) := by omega
    have hP1 : (P : Int) < 64 := by omega
    clear H0 hlen hall hasc hun
    generalize xorI (B : Int) 16777215 = un at *
    generalize (B : Int) = b at *
    go_wp2_with fail
    refine (iPlaneOn_calls b (P : Int) _ (hT.below (B0.out) hT.lt).two (hT.below (B0.out) hT.lt).hand).mono ?_
    rintro e w1_ ⟨v1_, he, o1_, b1_⟩
    rw [H.out] at he o1_
    dsimp only at he o1_
    subst he
    obtain ⟨Ax, cx, rfl⟩ := o1_.slice
    have B1 := Lib.hid ((B0.out).trans (b1_.mono (B0.out).size))
    have Ox1 := Lib.hid (o1_.weak (B0.out).size)
    go_wp2_with fail
    refine (sPlaneOn_calls b (P : Int) _).mono ?_
    rintro e w2_ ⟨v2_, he, o2_, b2_⟩
    rw [H.out] at he o2_
    dsimp only at he o2_
    subst he
    obtain ⟨Ay, cy, rfl⟩ := o2_.slice
    have B2 := Lib.hid ((B1.out).trans (b2_.mono (B1.out).size))
    have Ox2 := Lib.hid ((Ox1.out).below b2_)
    have Oy2 := Lib.hid (o2_.weak (B1.out).size)
    go_wp2_with fail
    refine (sameInts_calls _ _ _ _ zs zs _ (Ox2.out).rds (Oy2.out).rds (Ox2.out).len_le (Oy2.out).len_le).mono ?_
    rintro e w' ⟨he, k3_, rfl⟩
    rw [eqL_refl] at he
    subst he
    have HBZ := Lib.hid (below_drewN (B2.out) k3_)
    have OX := Lib.hid ((Ox2.out).drewN k3_)
    rw [HLEN.out] at OX ⊢
    obtain ⟨gz, rfl, hgz1, hgz2⟩ := own_at OX.out (by decide)
    generalize (w2_.drewN k3_) = W0 at *
    clear b1_ b2_ o1_ o2_ B0 B1 B2 Ox1 Ox2 Oy2
    have hor : ∀ k, k < 5 → bits .or .i64 (allTo zs k) (zs.getD k 0) = allTo zs (k + 1) := fun k hk => by
      have h1 := HAW.out k (by omega)
      have h2 := (HALL.out k hk).1
      exact or_i64 _ _ h1.1 (by omega) h2.1 (by have := h2.2; omega)
    have hz : ∀ k, k < 5 → (zs.getD k 0 / 2 ^ P).tmod 2 = 1 := fun k hk => by
      obtain ⟨h1, h2⟩ := HALL.out k hk
      rw [Int.tmod_eq_emod_of_nonneg (Int.ediv_nonneg h1.1 (Int.le_of_lt (Int.pow_pos (by decide))))]; exact h2
    have hlt : ∀ k, k < 4 → ¬ zs.getD (k + 1) 0 ≤ zs.getD k 0 := fun k hk => by have := HASC.out k (k + 1) (by omega) (by omega); omega
    have hcell : ∀ j, j < 5 → W0.cell? ⟨gz, j, none⟩ = some (.int .i64 (zs.getD j 0)) := fun j hj => OX.out.cell (j := j) (by rw [HLEN.out]; exact hj)
    have hc0 := hcell 0 (by decide)
    have hc1 := hcell 1 (by decide)
    have hc2 := hcell 2 (by decide)
    have hc3 := hcell 3 (by decide)
    have hc4 := hcell 4 (by decide)
    have t0 := hz 0 (by decide)
    have t1 := hz 1 (by decide)
    have t2 := hz 2 (by decide)
    have t3 := hz 3 (by decide)
    have t4 := hz 4 (by decide)
    have n0 := hlt 0 (by decide)
    have n1 := hlt 1 (by decide)
    have n2 := hlt 2 (by decide)
    have n3 := hlt 3 (by decide)
    have r0 := hor 0 (by decide)
    have r1 := hor 1 (by decide)
    have r2 := hor 2 (by decide)
    have r3 := hor 3 (by decide)
    have r4 := hor 4 (by decide)
    rw [HUN.out] at r4
    simp only [Nat.reduceAdd] at n0 n1 n2 n3 r0 r1 r2 r3
    rw [show allTo zs 0 = 0 from rfl] at r0
    clear hor hz hlt hcell OX
    generalize allTo zs 1 = A1 at *
    generalize allTo zs 2 = A2 at *
    generalize allTo zs 3 = A3 at *
    generalize allTo zs 4 = A4 at *
    generalize zs.getD 0 0 = y0 at *
    generalize zs.getD 1 0 = y1 at *
    generalize zs.getD 2 0 = y2 at *
    generalize zs.getD 3 0 = y3 at *
    generalize zs.getD 4 0 = y4 at *
    clear HUN HAW HASC HALL
    go_wp2_with fail
    refine wp_loop_rounds 6 ?_
    rw [rounds_succ]
    go_wp2_with fail
    refine wp_region_held_drew (S := fun w' => w'.cell? ⟨gz, 0, none⟩ = some (.int .i64 y0)) (by kernel_rfl) hc0 (fun hd => ?_)
    refine wpAnyH_take (i := 0) (v := .slice (some ⟨gz, 0, none⟩) 5 cx) rfl (by kernel_rfl) (by kernel_rfl) (by kernel_rfl) (fun _ _ _ h => h) (Or.inl ⟨by kernel_rfl, fun w _ => by kernel_rfl⟩) hd ?_
    change wpAnyH _ _ _ _ _ _ _ (Act.put _ (some 58) (.slice (some ⟨gz, 0, none⟩) 5 cx)) _
    simp only [Act.put, List.setIfInBounds_toArray, List.set_cons_zero, List.set_cons_succ]
    refine wpAnyH_take (i := 1) (v := .int .i64 0) rfl (by kernel_rfl) (by kernel_rfl) (by kernel_rfl) (fun _ _ _ h => h) (Or.inl ⟨by kernel_rfl, fun w _ => by kernel_rfl⟩) hd ?_
    change wpAnyH _ _ _ _ _ _ _ (Act.put _ (some 59) (.int .i64 0)) _
    simp only [Act.put, List.setIfInBounds_toArray, List.set_cons_zero, List.set_cons_succ]
    refine wpAnyH_take (i := 2) (v := .pointer (some ⟨gz, 0, none⟩)) rfl (by kernel_rfl) (by kernel_rfl) (by kernel_rfl) (fun _ _ _ h => h) (Or.inl ⟨by kernel_rfl, fun w hS => by go_simp⟩) hd ?_
    change wpAnyH _ _ _ _ _ _ _ (Act.put _ (some 60) (.pointer (some ⟨gz, 0, none⟩))) _
    simp only [Act.put, List.setIfInBounds_toArray, List.set_cons_zero, List.set_cons_succ]
    refine wpAnyH_take (i := 3) (v := .int .i64 y0) rfl (by kernel_rfl) (by kernel_rfl) (by kernel_rfl) (fun _ _ _ h => h) (Or.inl ⟨by kernel_rfl, fun w hS => by go_simp⟩) hd ?_
    change wpAnyH _ _ _ _ _ _ _ (Act.put _ (some 61) (.int .i64 y0)) _
    simp only [Act.put, List.setIfInBounds_toArray, List.set_cons_zero, List.set_cons_succ]
    refine wpAnyH_take (i := 4) (v := .int .i64 (P : Int)) rfl (by kernel_rfl) (by kernel_rfl) (by kernel_rfl) (fun _ _ _ h => h) (Or.inl ⟨by kernel_rfl, fun w _ => by kernel_rfl⟩) hd ?_
    change wpAnyH _ _ _ _ _ _ _ (Act.put _ (some 62) (.int .i64 (P : Int))) _
    simp only [Act.put, List.setIfInBounds_toArray, List.set_cons_zero, List.set_cons_succ]
    refine wpAnyH_take (i := 5) (v := .int .i64 (y0 / 2 ^ P)) rfl (by kernel_rfl) (by kernel_rfl) (by kernel_rfl) (fun _ _ _ h => h) (Or.inl ⟨by kernel_rfl, fun w hS => by go_simp⟩) hd ?_
    change wpAnyH _ _ _ _ _ _ _ (Act.put _ (some 63) (.int .i64 (y0 / 2 ^ P))) _
    simp only [Act.put, List.setIfInBounds_toArray, List.set_cons_zero, List.set_cons_succ]
    refine wpAnyH_take (i := 6) (v := .int .i64 1) rfl (by kernel_rfl) (by kernel_rfl) (by kernel_rfl) (fun _ _ _ h => h) (Or.inl ⟨by kernel_rfl, fun w hS => by go_simp⟩) hd ?_
    change wpAnyH _ _ _ _ _ _ _ (Act.put _ (some 64) (.int .i64 1)) _
    simp only [Act.put, List.setIfInBounds_toArray, List.set_cons_zero, List.set_cons_succ]
    refine wpAnyH_take (i := 7) (v := .bool false) rfl (by kernel_rfl) (by kernel_rfl) (by kernel_rfl) (fun _ _ _ h => h) (Or.inl ⟨by kernel_rfl, fun w hS => by go_simp⟩) hd ?_
    change wpAnyH _ _ _ _ _ _ _ (Act.put _ (some 65) (.bool false)) _
    simp only [Act.put, List.setIfInBounds_toArray, List.set_cons_zero, List.set_cons_succ]
    refine wpAnyH_take (i := 8) (v := .bool false) rfl (by kernel_rfl) (by kernel_rfl) (by kernel_rfl) (fun _ _ _ h => h) (Or.inl ⟨by kernel_rfl, fun w _ => by kernel_rfl⟩) hd ?_
    change wpAnyH _ _ _ _ _ _ _ (Act.put _ (some 66) (.bool false)) _
    simp only [Act.put, List.setIfInBounds_toArray, List.set_cons_zero, List.set_cons_succ]
    refine wpAnyH_take (i := 9) (v := .int .i64 0) rfl (by kernel_rfl) (by kernel_rfl) (by kernel_rfl) (fun _ _ _ h => h) (Or.inl ⟨by kernel_rfl, fun w _ => by kernel_rfl⟩) hd ?_
    change wpAnyH _ _ _ _ _ _ _ (Act.put _ (some 67) (.int .i64 0)) _
    simp only [Act.put, List.setIfInBounds_toArray, List.set_cons_zero, List.set_cons_succ]
    refine wpAnyH_take (i := 10) (v := .bool false) rfl (by kernel_rfl) (by kernel_rfl) (by kernel_rfl) (fun _ _ _ h => h) (Or.inl ⟨by kernel_rfl, fun w hS => by go_simp⟩) hd ?_
    change wpAnyH _ _ _ _ _ _ _ (Act.put _ (some 68) (.bool false)) _
    simp only [Act.put, List.setIfInBounds_toArray, List.set_cons_zero, List.set_cons_succ]
    refine wpAnyH_take (i := 11) (v := .bool false) rfl (by kernel_rfl) (by kernel_rfl) (by kernel_rfl) (fun _ _ _ h => h) (Or.inl ⟨by kernel_rfl, fun w _ => by kernel_rfl⟩) hd ?_
    change wpAnyH _ _ _ _ _ _ _ (Act.put _ (some 69) (.bool false)) _
    simp only [Act.put, List.setIfInBounds_toArray, List.set_cons_zero, List.set_cons_succ]
    refine wpAnyH_take (i := 12) (v := undef) rfl (by kernel_rfl) (by kernel_rfl) (by kernel_rfl) (fun _ _ _ h => h) (Or.inr ⟨by kernel_rfl, rfl⟩) hd ?_
    change wpAnyH _ _ _ _ _ _ _ (Act.put _ (some 70) (undef)) _
    simp only [Act.put, List.setIfInBounds_toArray, List.set_cons_zero, List.set_cons_succ]
    refine wpAnyH_take (i := 13) (v := undef) rfl (by kernel_rfl) (by kernel_rfl) (by kernel_rfl) (fun _ _ _ h => h) (Or.inr ⟨by kernel_rfl, rfl⟩) hd ?_
    change wpAnyH _ _ _ _ _ _ _ (Act.put _ (some 71) (undef)) _
    simp only [Act.put, List.setIfInBounds_toArray, List.set_cons_zero, List.set_cons_succ]
    refine wpAnyH_take (i := 14) (v := undef) rfl (by kernel_rfl) (by kernel_rfl) (by kernel_rfl) (fun _ _ _ h => h) (Or.inr ⟨by kernel_rfl, rfl⟩) hd ?_
    change wpAnyH _ _ _ _ _ _ _ (Act.put _ (some 72) (undef)) _
    simp only [Act.put, List.setIfInBounds_toArray, List.set_cons_zero, List.set_cons_succ]
    refine wpAnyH_take (i := 15) (v := undef) rfl (by kernel_rfl) (by kernel_rfl) (by kernel_rfl) (fun _ _ _ h => h) (Or.inr ⟨by kernel_rfl, rfl⟩) hd ?_
    change wpAnyH _ _ _ _ _ _ _ (Act.put _ (some 73) (undef)) _
    simp only [Act.put, List.setIfInBounds_toArray, List.set_cons_zero, List.set_cons_succ]
    refine wpAnyH_take (i := 16) (v := undef) rfl (by kernel_rfl) (by kernel_rfl) (by kernel_rfl) (fun _ _ _ h => h) (Or.inr ⟨by kernel_rfl, rfl⟩) hd ?_
    change wpAnyH _ _ _ _ _ _ _ (Act.put _ (some 74) (undef)) _
    simp only [Act.put, List.setIfInBounds_toArray, List.set_cons_zero, List.set_cons_succ]
    refine wpAnyH_take (i := 17) (v := undef) rfl (by kernel_rfl) (by kernel_rfl) (by kernel_rfl) (fun _ _ _ h => h) (Or.inr ⟨by kernel_rfl, rfl⟩) hd ?_
    change wpAnyH _ _ _ _ _ _ _ (Act.put _ (some 75) (undef)) _
    simp only [Act.put, List.setIfInBounds_toArray, List.set_cons_zero, List.set_cons_succ]
    refine wpAnyH_take (i := 18) (v := undef) rfl (by kernel_rfl) (by kernel_rfl) (by kernel_rfl) (fun _ _ _ h => h) (Or.inr ⟨by kernel_rfl, rfl⟩) hd ?_
    change wpAnyH _ _ _ _ _ _ _ (Act.put _ (some 76) (undef)) _
    simp only [Act.put, List.setIfInBounds_toArray, List.set_cons_zero, List.set_cons_succ]
    refine wpAnyH_take (i := 19) (v := undef) rfl (by kernel_rfl) (by kernel_rfl) (by kernel_rfl) (fun _ _ _ h => h) (Or.inr ⟨by kernel_rfl, rfl⟩) hd ?_
    change wpAnyH _ _ _ _ _ _ _ (Act.put _ (some 77) (undef)) _
    simp only [Act.put, List.setIfInBounds_toArray, List.set_cons_zero, List.set_cons_succ]
    refine wpAnyH_take (i := 20) (v := undef) rfl (by kernel_rfl) (by kernel_rfl) (by kernel_rfl) (fun _ _ _ h => h) (Or.inr ⟨by kernel_rfl, rfl⟩) hd ?_
    change wpAnyH _ _ _ _ _ _ _ (Act.put _ (some 78) (undef)) _
    simp only [Act.put, List.setIfInBounds_toArray, List.set_cons_zero, List.set_cons_succ]
    refine wpAnyH_take (i := 21) (v := undef) rfl (by kernel_rfl) (by kernel_rfl) (by kernel_rfl) (fun _ _ _ h => h) (Or.inr ⟨by kernel_rfl, rfl⟩) hd ?_
    change wpAnyH _ _ _ _ _ _ _ (Act.put _ (some 79) (undef)) _
    simp only [Act.put, List.setIfInBounds_toArray, List.set_cons_zero, List.set_cons_succ]
    refine wpAnyH_take (i := 22) (v := .bool false) rfl (by kernel_rfl) (by kernel_rfl) (by kernel_rfl) (fun _ _ _ h => h) (Or.inl ⟨by kernel_rfl, fun w hS => by go_simp⟩) hd ?_
    change wpAnyH _ _ _ _ _ _ _ (Act.put _ (some 80) (.bool false)) _
    simp only [Act.put, List.setIfInBounds_toArray, List.set_cons_zero, List.set_cons_succ]
    refine wpAnyH_take (i := 23) (v := .bool false) rfl (by kernel_rfl) (by kernel_rfl) (by kernel_rfl) (fun _ _ _ h => h) (Or.inl ⟨by kernel_rfl, fun w hS => by go_simp⟩) hd ?_
    change wpAnyH _ _ _ _ _ _ _ (Act.put _ (some 81) (.bool false)) _
    simp only [Act.put, List.setIfInBounds_toArray, List.set_cons_zero, List.set_cons_succ]
    refine wpAnyH_done (by kernel_rfl) ?_ _
    replace HBZ : Hid (Below w.heap.size w W0.drew) := Lib.hid HBZ.out.drew
    replace hc0 : W0.drew.cell? ⟨gz, 0, none⟩ = some (.int .i64 y0) := hc0
    replace hc1 : W0.drew.cell? ⟨gz, 1, none⟩ = some (.int .i64 y1) := hc1
    replace hc2 : W0.drew.cell? ⟨gz, 2, none⟩ = some (.int .i64 y2) := hc2
    replace hc3 : W0.drew.cell? ⟨gz, 3, none⟩ = some (.int .i64 y3) := hc3
    replace hc4 : W0.drew.cell? ⟨gz, 4, none⟩ = some (.int .i64 y4) := hc4
    clear hd
    generalize W0.drew = W1 at *
    go_wp2_with fail
    rw [rounds_succ]
    go_wp2_with fail
    refine wp_region_held_drew (S := fun w' => w'.cell? ⟨gz, 1, none⟩ = some (.int .i64 y1) ∧ w'.cell? ⟨gz, 0, none⟩ = some (.int .i64 y0)) (by kernel_rfl) ⟨hc1, hc0⟩ (fun hd => ?_)
    refine wpAnyH_take (i := 0) (v := .slice (some ⟨gz, 0, none⟩) 5 cx) rfl (by kernel_rfl) (by kernel_rfl) (by kernel_rfl) (fun _ _ _ h => h) (Or.inl ⟨by kernel_rfl, fun w _ => by kernel_rfl⟩) hd ?_
    change wpAnyH _ _ _ _ _ _ _ (Act.put _ (some 58) (.slice (some ⟨gz, 0, none⟩) 5 cx)) _
    simp only [Act.put, List.setIfInBounds_toArray, List.set_cons_zero, List.set_cons_succ]
    refine wpAnyH_take (i := 1) (v := .int .i64 1) rfl (by kernel_rfl) (by kernel_rfl) (by kernel_rfl) (fun _ _ _ h => h) (Or.inl ⟨by kernel_rfl, fun w _ => by kernel_rfl⟩) hd ?_
    change wpAnyH _ _ _ _ _ _ _ (Act.put _ (some 59) (.int .i64 1)) _
    simp only [Act.put, List.setIfInBounds_toArray, List.set_cons_zero, List.set_cons_succ]
    refine wpAnyH_take (i := 2) (v := .pointer (some ⟨gz, 1, none⟩)) rfl (by kernel_rfl) (by kernel_rfl) (by kernel_rfl) (fun _ _ _ h => h) (Or.inl ⟨by kernel_rfl, fun w hS => by go_simp⟩) hd ?_
    change wpAnyH _ _ _ _ _ _ _ (Act.put _ (some 60) (.pointer (some ⟨gz, 1, none⟩))) _
    simp only [Act.put, List.setIfInBounds_toArray, List.set_cons_zero, List.set_cons_succ]
    refine wpAnyH_take (i := 3) (v := .int .i64 y1) rfl (by kernel_rfl) (by kernel_rfl) (by kernel_rfl) (fun _ _ _ h => h) (Or.inl ⟨by kernel_rfl, fun w hS => by have hS1 := hS.1; have hS2 := hS.2; go_simp⟩) hd ?_
    change wpAnyH _ _ _ _ _ _ _ (Act.put _ (some 61) (.int .i64 y1)) _
    simp only [Act.put, List.setIfInBounds_toArray, List.set_cons_zero, List.set_cons_succ]
    refine wpAnyH_take (i := 4) (v := .int .i64 (P : Int)) rfl (by kernel_rfl) (by kernel_rfl) (by kernel_rfl) (fun _ _ _ h => h) (Or.inl ⟨by kernel_rfl, fun w _ => by kernel_rfl⟩) hd ?_
    change wpAnyH _ _ _ _ _ _ _ (Act.put _ (some 62) (.int .i64 (P : Int))) _
    simp only [Act.put, List.setIfInBounds_toArray, List.set_cons_zero, List.set_cons_succ]
    refine wpAnyH_take (i := 5) (v := .int .i64 (y1 / 2 ^ P)) rfl (by kernel_rfl) (by kernel_rfl) (by kernel_rfl) (fun _ _ _ h => h) (Or.inl ⟨by kernel_rfl, fun w hS => by go_simp⟩) hd ?_
    change wpAnyH _ _ _ _ _ _ _ (Act.put _ (some 63) (.int .i64 (y1 / 2 ^ P))) _
    simp only [Act.put, List.setIfInBounds_toArray, List.set_cons_zero, List.set_cons_succ]
    refine wpAnyH_take (i := 6) (v := .int .i64 1) rfl (by kernel_rfl) (by kernel_rfl) (by kernel_rfl) (fun _ _ _ h => h) (Or.inl ⟨by kernel_rfl, fun w hS => by go_simp⟩) hd ?_
    change wpAnyH _ _ _ _ _ _ _ (Act.put _ (some 64) (.int .i64 1)) _
    simp only [Act.put, List.setIfInBounds_toArray, List.set_cons_zero, List.set_cons_succ]
    refine wpAnyH_take (i := 7) (v := .bool false) rfl (by kernel_rfl) (by kernel_rfl) (by kernel_rfl) (fun _ _ _ h => h) (Or.inl ⟨by kernel_rfl, fun w hS => by go_simp⟩) hd ?_
    change wpAnyH _ _ _ _ _ _ _ (Act.put _ (some 65) (.bool false)) _
    simp only [Act.put, List.setIfInBounds_toArray, List.set_cons_zero, List.set_cons_succ]
    refine wpAnyH_take (i := 8) (v := .bool false) rfl (by kernel_rfl) (by kernel_rfl) (by kernel_rfl) (fun _ _ _ h => h) (Or.inl ⟨by kernel_rfl, fun w _ => by kernel_rfl⟩) hd ?_
    change wpAnyH _ _ _ _ _ _ _ (Act.put _ (some 66) (.bool false)) _
    simp only [Act.put, List.setIfInBounds_toArray, List.set_cons_zero, List.set_cons_succ]
    refine wpAnyH_take (i := 9) (v := .int .i64 1) rfl (by kernel_rfl) (by kernel_rfl) (by kernel_rfl) (fun _ _ _ h => h) (Or.inl ⟨by kernel_rfl, fun w _ => by kernel_rfl⟩) hd ?_
    change wpAnyH _ _ _ _ _ _ _ (Act.put _ (some 67) (.int .i64 1)) _
    simp only [Act.put, List.setIfInBounds_toArray, List.set_cons_zero, List.set_cons_succ]
    refine wpAnyH_take (i := 10) (v := .bool true) rfl (by kernel_rfl) (by kernel_rfl) (by kernel_rfl) (fun _ _ _ h => h) (Or.inl ⟨by kernel_rfl, fun w hS => by go_simp⟩) hd ?_
    change wpAnyH _ _ _ _ _ _ _ (Act.put _ (some 68) (.bool true)) _
    simp only [Act.put, List.setIfInBounds_toArray, List.set_cons_zero, List.set_cons_succ]
    refine wpAnyH_take (i := 11) (v := .bool true) rfl (by kernel_rfl) (by kernel_rfl) (by kernel_rfl) (fun _ _ _ h => h) (Or.inl ⟨by kernel_rfl, fun w _ => by kernel_rfl⟩) hd ?_
    change wpAnyH _ _ _ _ _ _ _ (Act.put _ (some 69) (.bool true)) _
    simp only [Act.put, List.setIfInBounds_toArray, List.set_cons_zero, List.set_cons_succ]
    refine wpAnyH_take (i := 12) (v := .slice (some ⟨gz, 0, none⟩) 5 cx) rfl (by kernel_rfl) (by kernel_rfl) (by kernel_rfl) (fun _ _ _ h => h) (Or.inl ⟨by kernel_rfl, fun w _ => by kernel_rfl⟩) hd ?_
    change wpAnyH _ _ _ _ _ _ _ (Act.put _ (some 70) (.slice (some ⟨gz, 0, none⟩) 5 cx)) _
    simp only [Act.put, List.setIfInBounds_toArray, List.set_cons_zero, List.set_cons_succ]
    refine wpAnyH_take (i := 13) (v := .int .i64 1) rfl (by kernel_rfl) (by kernel_rfl) (by kernel_rfl) (fun _ _ _ h => h) (Or.inl ⟨by kernel_rfl, fun w _ => by kernel_rfl⟩) hd ?_
    change wpAnyH _ _ _ _ _ _ _ (Act.put _ (some 71) (.int .i64 1)) _
    simp only [Act.put, List.setIfInBounds_toArray, List.set_cons_zero, List.set_cons_succ]
    refine wpAnyH_take (i := 14) (v := .pointer (some ⟨gz, 1, none⟩)) rfl (by kernel_rfl) (by kernel_rfl) (by kernel_rfl) (fun _ _ _ h => h) (Or.inl ⟨by kernel_rfl, fun w hS => by go_simp⟩) hd ?_
    change wpAnyH _ _ _ _ _ _ _ (Act.put _ (some 72) (.pointer (some ⟨gz, 1, none⟩))) _
    simp only [Act.put, List.setIfInBounds_toArray, List.set_cons_zero, List.set_cons_succ]
    refine wpAnyH_take (i := 15) (v := .int .i64 y1) rfl (by kernel_rfl) (by kernel_rfl) (by kernel_rfl) (fun _ _ _ h => h) (Or.inl ⟨by kernel_rfl, fun w hS => by have hS1 := hS.1; have hS2 := hS.2; go_simp⟩) hd ?_
    change wpAnyH _ _ _ _ _ _ _ (Act.put _ (some 73) (.int .i64 y1)) _
    simp only [Act.put, List.setIfInBounds_toArray, List.set_cons_zero, List.set_cons_succ]
    refine wpAnyH_take (i := 16) (v := .slice (some ⟨gz, 0, none⟩) 5 cx) rfl (by kernel_rfl) (by kernel_rfl) (by kernel_rfl) (fun _ _ _ h => h) (Or.inl ⟨by kernel_rfl, fun w _ => by kernel_rfl⟩) hd ?_
    change wpAnyH _ _ _ _ _ _ _ (Act.put _ (some 74) (.slice (some ⟨gz, 0, none⟩) 5 cx)) _
    simp only [Act.put, List.setIfInBounds_toArray, List.set_cons_zero, List.set_cons_succ]
    refine wpAnyH_take (i := 17) (v := .int .i64 1) rfl (by kernel_rfl) (by kernel_rfl) (by kernel_rfl) (fun _ _ _ h => h) (Or.inl ⟨by kernel_rfl, fun w _ => by kernel_rfl⟩) hd ?_
    change wpAnyH _ _ _ _ _ _ _ (Act.put _ (some 75) (.int .i64 1)) _
    simp only [Act.put, List.setIfInBounds_toArray, List.set_cons_zero, List.set_cons_succ]
    refine wpAnyH_take (i := 18) (v := .int .i64 0) rfl (by kernel_rfl) (by kernel_rfl) (by kernel_rfl) (fun _ _ _ h => h) (Or.inl ⟨by kernel_rfl, fun w _ => by kernel_rfl⟩) hd ?_
    change wpAnyH _ _ _ _ _ _ _ (Act.put _ (some 76) (.int .i64 0)) _
    simp only [Act.put, List.setIfInBounds_toArray, List.set_cons_zero, List.set_cons_succ]
    refine wpAnyH_take (i := 19) (v := .pointer (some ⟨gz, 0, none⟩)) rfl (by kernel_rfl) (by kernel_rfl) (by kernel_rfl) (fun _ _ _ h => h) (Or.inl ⟨by kernel_rfl, fun w hS => by go_simp⟩) hd ?_
    change wpAnyH _ _ _ _ _ _ _ (Act.put _ (some 77) (.pointer (some ⟨gz, 0, none⟩))) _
    simp only [Act.put, List.setIfInBounds_toArray, List.set_cons_zero, List.set_cons_succ]
    refine wpAnyH_take (i := 20) (v := .int .i64 y0) rfl (by kernel_rfl) (by kernel_rfl) (by kernel_rfl) (fun _ _ _ h => h) (Or.inl ⟨by kernel_rfl, fun w hS => by have hS1 := hS.1; have hS2 := hS.2; go_simp⟩) hd ?_
    change wpAnyH _ _ _ _ _ _ _ (Act.put _ (some 78) (.int .i64 y0)) _
    simp only [Act.put, List.setIfInBounds_toArray, List.set_cons_zero, List.set_cons_succ]
    refine wpAnyH_take (i := 21) (v := .bool false) rfl (by kernel_rfl) (by kernel_rfl) (by kernel_rfl) (fun _ _ _ h => h) (Or.inl ⟨by kernel_rfl, fun w hS => by go_simp⟩) hd ?_
    change wpAnyH _ _ _ _ _ _ _ (Act.put _ (some 79) (.bool false)) _
    simp only [Act.put, List.setIfInBounds_toArray, List.set_cons_zero, List.set_cons_succ]
    refine wpAnyH_take (i := 22) (v := .bool false) rfl (by kernel_rfl) (by kernel_rfl) (by kernel_rfl) (fun _ _ _ h => h) (Or.inl ⟨by kernel_rfl, fun w hS => by go_simp⟩) hd ?_
    change wpAnyH _ _ _ _ _ _ _ (Act.put _ (some 80) (.bool false)) _
    simp only [Act.put, List.setIfInBounds_toArray, List.set_cons_zero, List.set_cons_succ]
    refine wpAnyH_take (i := 23) (v := .bool false) rfl (by kernel_rfl) (by kernel_rfl) (by kernel_rfl) (fun _ _ _ h => h) (Or.inl ⟨by kernel_rfl, fun w hS => by go_simp⟩) hd ?_
    change wpAnyH _ _ _ _ _ _ _ (Act.put _ (some 81) (.bool false)) _
    simp only [Act.put, List.setIfInBounds_toArray, List.set_cons_zero, List.set_cons_succ]
    refine wpAnyH_done (by kernel_rfl) ?_ _
    replace HBZ : Hid (Below w.heap.size w W1.drew) := Lib.hid HBZ.out.drew
    replace hc0 : W1.drew.cell? ⟨gz, 0, none⟩ = some (.int .i64 y0) := hc0
    replace hc1 : W1.drew.cell? ⟨gz, 1, none⟩ = some (.int .i64 y1) := hc1
    replace hc2 : W1.drew.cell? ⟨gz, 2, none⟩ = some (.int .i64 y2) := hc2
    replace hc3 : W1.drew.cell? ⟨gz, 3, none⟩ = some (.int .i64 y3) := hc3
    replace hc4 : W1.drew.cell? ⟨gz, 4, none⟩ = some (.int .i64 y4) := hc4
    clear hd
    generalize W1.drew = W2 at *
    go_wp2_with fail
    rw [rounds_succ]
    go_wp2_with fail
    refine wp_region_held_drew (S := fun w' => w'.cell? ⟨gz, 2, none⟩ = some (.int .i64 y2) ∧ w'.cell? ⟨gz, 1, none⟩ = some (.int .i64 y1)) (by kernel_rfl) ⟨hc2, hc1⟩ (fun hd => ?_)
    refine wpAnyH_take (i := 0) (v := .slice (some ⟨gz, 0, none⟩) 5 cx) rfl (by kernel_rfl) (by kernel_rfl) (by kernel_rfl) (fun _ _ _ h => h) (Or.inl ⟨by kernel_rfl, fun w _ => by kernel_rfl⟩) hd ?_
    change wpAnyH _ _ _ _ _ _ _ (Act.put _ (some 58) (.slice (some ⟨gz, 0, none⟩) 5 cx)) _
    simp only [Act.put, List.setIfInBounds_toArray, List.set_cons_zero, List.set_cons_succ]
    refine wpAnyH_take (i := 1) (v := .int .i64 2) rfl (by kernel_rfl) (by kernel_rfl) (by kernel_rfl) (fun _ _ _ h => h) (Or.inl ⟨by kernel_rfl, fun w _ => by kernel_rfl⟩) hd ?_
    change wpAnyH _ _ _ _ _ _ _ (Act.put _ (some 59) (.int .i64 2)) _
    simp only [Act.put, List.setIfInBounds_toArray, List.set_cons_zero, List.set_cons_succ]
    refine wpAnyH_take (i := 2) (v := .pointer (some ⟨gz, 2, none⟩)) rfl (by kernel_rfl) (by kernel_rfl) (by kernel_rfl) (fun _ _ _ h => h) (Or.inl ⟨by kernel_rfl, fun w hS => by go_simp⟩) hd ?_
    change wpAnyH _ _ _ _ _ _ _ (Act.put _ (some 60) (.pointer (some ⟨gz, 2, none⟩))) _
    simp only [Act.put, List.setIfInBounds_toArray, List.set_cons_zero, List.set_cons_succ]
    refine wpAnyH_take (i := 3) (v := .int .i64 y2) rfl (by kernel_rfl) (by kernel_rfl) (by kernel_rfl) (fun _ _ _ h => h) (Or.inl ⟨by kernel_rfl, fun w hS => by have hS1 := hS.1; have hS2 := hS.2; go_simp⟩) hd ?_
    change wpAnyH _ _ _ _ _ _ _ (Act.put _ (some 61) (.int .i64 y2)) _
    simp only [Act.put, List.setIfInBounds_toArray, List.set_cons_zero, List.set_cons_succ]
    refine wpAnyH_take (i := 4) (v := .int .i64 (P : Int)) rfl (by kernel_rfl) (by kernel_rfl) (by kernel_rfl) (fun _ _ _ h => h) (Or.inl ⟨by kernel_rfl, fun w _ => by kernel_rfl⟩) hd ?_
    change wpAnyH _ _ _ _ _ _ _ (Act.put _ (some 62) (.int .i64 (P : Int))) _
    simp only [Act.put, List.setIfInBounds_toArray, List.set_cons_zero, List.set_cons_succ]
    refine wpAnyH_take (i := 5) (v := .int .i64 (y2 / 2 ^ P)) rfl (by kernel_rfl) (by kernel_rfl) (by kernel_rfl) (fun _ _ _ h => h) (Or.inl ⟨by kernel_rfl, fun w hS => by go_simp⟩) hd ?_
    change wpAnyH _ _ _ _ _ _ _ (Act.put _ (some 63) (.int .i64 (y2 / 2 ^ P))) _
    simp only [Act.put, List.setIfInBounds_toArray, List.set_cons_zero, List.set_cons_succ]
    refine wpAnyH_take (i := 6) (v := .int .i64 1) rfl (by kernel_rfl) (by kernel_rfl) (by kernel_rfl) (fun _ _ _ h => h) (Or.inl ⟨by kernel_rfl, fun w hS => by go_simp⟩) hd ?_
    change wpAnyH _ _ _ _ _ _ _ (Act.put _ (some 64) (.int .i64 1)) _
    simp only [Act.put, List.setIfInBounds_toArray, List.set_cons_zero, List.set_cons_succ]
    refine wpAnyH_take (i := 7) (v := .bool false) rfl (by kernel_rfl) (by kernel_rfl) (by kernel_rfl) (fun _ _ _ h => h) (Or.inl ⟨by kernel_rfl, fun w hS => by go_simp⟩) hd ?_
    change wpAnyH _ _ _ _ _ _ _ (Act.put _ (some 65) (.bool false)) _
    simp only [Act.put, List.setIfInBounds_toArray, List.set_cons_zero, List.set_cons_succ]
    refine wpAnyH_take (i := 8) (v := .bool false) rfl (by kernel_rfl) (by kernel_rfl) (by kernel_rfl) (fun _ _ _ h => h) (Or.inl ⟨by kernel_rfl, fun w _ => by kernel_rfl⟩) hd ?_
    change wpAnyH _ _ _ _ _ _ _ (Act.put _ (some 66) (.bool false)) _
    simp only [Act.put, List.setIfInBounds_toArray, List.set_cons_zero, List.set_cons_succ]
    refine wpAnyH_take (i := 9) (v := .int .i64 2) rfl (by kernel_rfl) (by kernel_rfl) (by kernel_rfl) (fun _ _ _ h => h) (Or.inl ⟨by kernel_rfl, fun w _ => by kernel_rfl⟩) hd ?_
    change wpAnyH _ _ _ _ _ _ _ (Act.put _ (some 67) (.int .i64 2)) _
    simp only [Act.put, List.setIfInBounds_toArray, List.set_cons_zero, List.set_cons_succ]
    refine wpAnyH_take (i := 10) (v := .bool true) rfl (by kernel_rfl) (by kernel_rfl) (by kernel_rfl) (fun _ _ _ h => h) (Or.inl ⟨by kernel_rfl, fun w hS => by go_simp⟩) hd ?_
    change wpAnyH _ _ _ _ _ _ _ (Act.put _ (some 68) (.bool true)) _
    simp only [Act.put, List.setIfInBounds_toArray, List.set_cons_zero, List.set_cons_succ]
    refine wpAnyH_take (i := 11) (v := .bool true) rfl (by kernel_rfl) (by kernel_rfl) (by kernel_rfl) (fun _ _ _ h => h) (Or.inl ⟨by kernel_rfl, fun w _ => by kernel_rfl⟩) hd ?_
    change wpAnyH _ _ _ _ _ _ _ (Act.put _ (some 69) (.bool true)) _
    simp only [Act.put, List.setIfInBounds_toArray, List.set_cons_zero, List.set_cons_succ]
    refine wpAnyH_take (i := 12) (v := .slice (some ⟨gz, 0, none⟩) 5 cx) rfl (by kernel_rfl) (by kernel_rfl) (by kernel_rfl) (fun _ _ _ h => h) (Or.inl ⟨by kernel_rfl, fun w _ => by kernel_rfl⟩) hd ?_
    change wpAnyH _ _ _ _ _ _ _ (Act.put _ (some 70) (.slice (some ⟨gz, 0, none⟩) 5 cx)) _
    simp only [Act.put, List.setIfInBounds_toArray, List.set_cons_zero, List.set_cons_succ]
    refine wpAnyH_take (i := 13) (v := .int .i64 2) rfl (by kernel_rfl) (by kernel_rfl) (by kernel_rfl) (fun _ _ _ h => h) (Or.inl ⟨by kernel_rfl, fun w _ => by kernel_rfl⟩) hd ?_
    change wpAnyH _ _ _ _ _ _ _ (Act.put _ (some 71) (.int .i64 2)) _
    simp only [Act.put, List.setIfInBounds_toArray, List.set_cons_zero, List.set_cons_succ]
    refine wpAnyH_take (i := 14) (v := .pointer (some ⟨gz, 2, none⟩)) rfl (by kernel_rfl) (by kernel_rfl) (by kernel_rfl) (fun _ _ _ h => h) (Or.inl ⟨by kernel_rfl, fun w hS => by go_simp⟩) hd ?_
    change wpAnyH _ _ _ _ _ _ _ (Act.put _ (some 72) (.pointer (some ⟨gz, 2, none⟩))) _
    simp only [Act.put, List.setIfInBounds_toArray, List.set_cons_zero, List.set_cons_succ]
    refine wpAnyH_take (i := 15) (v := .int .i64 y2) rfl (by kernel_rfl) (by kernel_rfl) (by kernel_rfl) (fun _ _ _ h => h) (Or.inl ⟨by kernel_rfl, fun w hS => by have hS1 := hS.1; have hS2 := hS.2; go_simp⟩) hd ?_
    change wpAnyH _ _ _ _ _ _ _ (Act.put _ (some 73) (.int .i64 y2)) _
    simp only [Act.put, List.setIfInBounds_toArray, List.set_cons_zero, List.set_cons_succ]
    refine wpAnyH_take (i := 16) (v := .slice (some ⟨gz, 0, none⟩) 5 cx) rfl (by kernel_rfl) (by kernel_rfl) (by kernel_rfl) (fun _ _ _ h => h) (Or.inl ⟨by kernel_rfl, fun w _ => by kernel_rfl⟩) hd ?_
    change wpAnyH _ _ _ _ _ _ _ (Act.put _ (some 74) (.slice (some ⟨gz, 0, none⟩) 5 cx)) _
    simp only [Act.put, List.setIfInBounds_toArray, List.set_cons_zero, List.set_cons_succ]
    refine wpAnyH_take (i := 17) (v := .int .i64 2) rfl (by kernel_rfl) (by kernel_rfl) (by kernel_rfl) (fun _ _ _ h => h) (Or.inl ⟨by kernel_rfl, fun w _ => by kernel_rfl⟩) hd ?_
    change wpAnyH _ _ _ _ _ _ _ (Act.put _ (some 75) (.int .i64 2)) _
    simp only [Act.put, List.setIfInBounds_toArray, List.set_cons_zero, List.set_cons_succ]
    refine wpAnyH_take (i := 18) (v := .int .i64 1) rfl (by kernel_rfl) (by kernel_rfl) (by kernel_rfl) (fun _ _ _ h => h) (Or.inl ⟨by kernel_rfl, fun w _ => by kernel_rfl⟩) hd ?_
    change wpAnyH _ _ _ _ _ _ _ (Act.put _ (some 76) (.int .i64 1)) _
    simp only [Act.put, List.setIfInBounds_toArray, List.set_cons_zero, List.set_cons_succ]
    refine wpAnyH_take (i := 19) (v := .pointer (some ⟨gz, 1, none⟩)) rfl (by kernel_rfl) (by kernel_rfl) (by kernel_rfl) (fun _ _ _ h => h) (Or.inl ⟨by kernel_rfl, fun w hS => by go_simp⟩) hd ?_
    change wpAnyH _ _ _ _ _ _ _ (Act.put _ (some 77) (.pointer (some ⟨gz, 1, none⟩))) _
    simp only [Act.put, List.setIfInBounds_toArray, List.set_cons_zero, List.set_cons_succ]
    refine wpAnyH_take (i := 20) (v := .int .i64 y1) rfl (by kernel_rfl) (by kernel_rfl) (by kernel_rfl) (fun _ _ _ h => h) (Or.inl ⟨by kernel_rfl, fun w hS => by have hS1 := hS.1; have hS2 := hS.2; go_simp⟩) hd ?_
    change wpAnyH _ _ _ _ _ _ _ (Act.put _ (some 78) (.int .i64 y1)) _
    simp only [Act.put, List.setIfInBounds_toArray, List.set_cons_zero, List.set_cons_succ]
    refine wpAnyH_take (i := 21) (v := .bool false) rfl (by kernel_rfl) (by kernel_rfl) (by kernel_rfl) (fun _ _ _ h => h) (Or.inl ⟨by kernel_rfl, fun w hS => by go_simp⟩) hd ?_
    change wpAnyH _ _ _ _ _ _ _ (Act.put _ (some 79) (.bool false)) _
    simp only [Act.put, List.setIfInBounds_toArray, List.set_cons_zero, List.set_cons_succ]
    refine wpAnyH_take (i := 22) (v := .bool false) rfl (by kernel_rfl) (by kernel_rfl) (by kernel_rfl) (fun _ _ _ h => h) (Or.inl ⟨by kernel_rfl, fun w hS => by go_simp⟩) hd ?_
    change wpAnyH _ _ _ _ _ _ _ (Act.put _ (some 80) (.bool false)) _
    simp only [Act.put, List.setIfInBounds_toArray, List.set_cons_zero, List.set_cons_succ]
    refine wpAnyH_take (i := 23) (v := .bool false) rfl (by kernel_rfl) (by kernel_rfl) (by kernel_rfl) (fun _ _ _ h => h) (Or.inl ⟨by kernel_rfl, fun w hS => by go_simp⟩) hd ?_
    change wpAnyH _ _ _ _ _ _ _ (Act.put _ (some 81) (.bool false)) _
    simp only [Act.put, List.setIfInBounds_toArray, List.set_cons_zero, List.set_cons_succ]
    refine wpAnyH_done (by kernel_rfl) ?_ _
    replace HBZ : Hid (Below w.heap.size w W2.drew) := Lib.hid HBZ.out.drew
    replace hc0 : W2.drew.cell? ⟨gz, 0, none⟩ = some (.int .i64 y0) := hc0
    replace hc1 : W2.drew.cell? ⟨gz, 1, none⟩ = some (.int .i64 y1) := hc1
    replace hc2 : W2.drew.cell? ⟨gz, 2, none⟩ = some (.int .i64 y2) := hc2
    replace hc3 : W2.drew.cell? ⟨gz, 3, none⟩ = some (.int .i64 y3) := hc3
    replace hc4 : W2.drew.cell? ⟨gz, 4, none⟩ = some (.int .i64 y4) := hc4
    clear hd
    generalize W2.drew = W3 at *
    go_wp2_with fail
    rw [rounds_succ]
    go_wp2_with fail
    refine wp_region_held_drew (S := fun w' => w'.cell? ⟨gz, 3, none⟩ = some (.int .i64 y3) ∧ w'.cell? ⟨gz, 2, none⟩ = some (.int .i64 y2)) (by kernel_rfl) ⟨hc3, hc2⟩ (fun hd => ?_)
    refine wpAnyH_take (i := 0) (v := .slice (some ⟨gz, 0, none⟩) 5 cx) rfl (by kernel_rfl) (by kernel_rfl) (by kernel_rfl) (fun _ _ _ h => h) (Or.inl ⟨by kernel_rfl, fun w _ => by kernel_rfl⟩) hd ?_
    change wpAnyH _ _ _ _ _ _ _ (Act.put _ (some 58) (.slice (some ⟨gz, 0, none⟩) 5 cx)) _
    simp only [Act.put, List.setIfInBounds_toArray, List.set_cons_zero, List.set_cons_succ]
    refine wpAnyH_take (i := 1) (v := .int .i64 3) rfl (by kernel_rfl) (by kernel_rfl) (by kernel_rfl) (fun _ _ _ h => h) (Or.inl ⟨by kernel_rfl, fun w _ => by kernel_rfl⟩) hd ?_
    change wpAnyH _ _ _ _ _ _ _ (Act.put _ (some 59) (.int .i64 3)) _
    simp only [Act.put, List.setIfInBounds_toArray, List.set_cons_zero, List.set_cons_succ]
    refine wpAnyH_take (i := 2) (v := .pointer (some ⟨gz, 3, none⟩)) rfl (by kernel_rfl) (by kernel_rfl) (by kernel_rfl) (fun _ _ _ h => h) (Or.inl ⟨by kernel_rfl, fun w hS => by go_simp⟩) hd ?_
    change wpAnyH _ _ _ _ _ _ _ (Act.put _ (some 60) (.pointer (some ⟨gz, 3, none⟩))) _
    simp only [Act.put, List.setIfInBounds_toArray, List.set_cons_zero, List.set_cons_succ]
    refine wpAnyH_take (i := 3) (v := .int .i64 y3) rfl (by kernel_rfl) (by kernel_rfl) (by kernel_rfl) (fun _ _ _ h => h) (Or.inl ⟨by kernel_rfl, fun w hS => by have hS1 := hS.1; have hS2 := hS.2; go_simp⟩) hd ?_
    change wpAnyH _ _ _ _ _ _ _ (Act.put _ (some 61) (.int .i64 y3)) _
    simp only [Act.put, List.setIfInBounds_toArray, List.set_cons_zero, List.set_cons_succ]
    refine wpAnyH_take (i := 4) (v := .int .i64 (P : Int)) rfl (by kernel_rfl) (by kernel_rfl) (by kernel_rfl) (fun _ _ _ h => h) (Or.inl ⟨by kernel_rfl, fun w _ => by kernel_rfl⟩) hd ?_
    change wpAnyH _ _ _ _ _ _ _ (Act.put _ (some 62) (.int .i64 (P : Int))) _
    simp only [Act.put, List.setIfInBounds_toArray, List.set_cons_zero, List.set_cons_succ]
    refine wpAnyH_take (i := 5) (v := .int .i64 (y3 / 2 ^ P)) rfl (by kernel_rfl) (by kernel_rfl) (by kernel_rfl) (fun _ _ _ h => h) (Or.inl ⟨by kernel_rfl, fun w hS => by go_simp⟩) hd ?_
    change wpAnyH _ _ _ _ _ _ _ (Act.put _ (some 63) (.int .i64 (y3 / 2 ^ P))) _
    simp only [Act.put, List.setIfInBounds_toArray, List.set_cons_zero, List.set_cons_succ]
    refine wpAnyH_take (i := 6) (v := .int .i64 1) rfl (by kernel_rfl) (by kernel_rfl) (by kernel_rfl) (fun _ _ _ h => h) (Or.inl ⟨by kernel_rfl, fun w hS => by go_simp⟩) hd ?_
    change wpAnyH _ _ _ _ _ _ _ (Act.put _ (some 64) (.int .i64 1)) _
    simp only [Act.put, List.setIfInBounds_toArray, List.set_cons_zero, List.set_cons_succ]
    refine wpAnyH_take (i := 7) (v := .bool false) rfl (by kernel_rfl) (by kernel_rfl) (by kernel_rfl) (fun _ _ _ h => h) (Or.inl ⟨by kernel_rfl, fun w hS => by go_simp⟩) hd ?_
    change wpAnyH _ _ _ _ _ _ _ (Act.put _ (some 65) (.bool false)) _
    simp only [Act.put, List.setIfInBounds_toArray, List.set_cons_zero, List.set_cons_succ]
    refine wpAnyH_take (i := 8) (v := .bool false) rfl (by kernel_rfl) (by kernel_rfl) (by kernel_rfl) (fun _ _ _ h => h) (Or.inl ⟨by kernel_rfl, fun w _ => by kernel_rfl⟩) hd ?_
    change wpAnyH _ _ _ _ _ _ _ (Act.put _ (some 66) (.bool false)) _
    simp only [Act.put, List.setIfInBounds_toArray, List.set_cons_zero, List.set_cons_succ]
    refine wpAnyH_take (i := 9) (v := .int .i64 3) rfl (by kernel_rfl) (by kernel_rfl) (by kernel_rfl) (fun _ _ _ h => h) (Or.inl ⟨by kernel_rfl, fun w _ => by kernel_rfl⟩) hd ?_
    change wpAnyH _ _ _ _ _ _ _ (Act.put _ (some 67) (.int .i64 3)) _
    simp only [Act.put, List.setIfInBounds_toArray, List.set_cons_zero, List.set_cons_succ]
    refine wpAnyH_take (i := 10) (v := .bool true) rfl (by kernel_rfl) (by kernel_rfl) (by kernel_rfl) (fun _ _ _ h => h) (Or.inl ⟨by kernel_rfl, fun w hS => by go_simp⟩) hd ?_
    change wpAnyH _ _ _ _ _ _ _ (Act.put _ (some 68) (.bool true)) _
    simp only [Act.put, List.setIfInBounds_toArray, List.set_cons_zero, List.set_cons_succ]
    refine wpAnyH_take (i := 11) (v := .bool true) rfl (by kernel_rfl) (by kernel_rfl) (by kernel_rfl) (fun _ _ _ h => h) (Or.inl ⟨by kernel_rfl, fun w _ => by kernel_rfl⟩) hd ?_
    change wpAnyH _ _ _ _ _ _ _ (Act.put _ (some 69) (.bool true)) _
    simp only [Act.put, List.setIfInBounds_toArray, List.set_cons_zero, List.set_cons_succ]
    refine wpAnyH_take (i := 12) (v := .slice (some ⟨gz, 0, none⟩) 5 cx) rfl (by kernel_rfl) (by kernel_rfl) (by kernel_rfl) (fun _ _ _ h => h) (Or.inl ⟨by kernel_rfl, fun w _ => by kernel_rfl⟩) hd ?_
    change wpAnyH _ _ _ _ _ _ _ (Act.put _ (some 70) (.slice (some ⟨gz, 0, none⟩) 5 cx)) _
    simp only [Act.put, List.setIfInBounds_toArray, List.set_cons_zero, List.set_cons_succ]
    refine wpAnyH_take (i := 13) (v := .int .i64 3) rfl (by kernel_rfl) (by kernel_rfl) (by kernel_rfl) (fun _ _ _ h => h) (Or.inl ⟨by kernel_rfl, fun w _ => by kernel_rfl⟩) hd ?_
    change wpAnyH _ _ _ _ _ _ _ (Act.put _ (some 71) (.int .i64 3)) _
    simp only [Act.put, List.setIfInBounds_toArray, List.set_cons_zero, List.set_cons_succ]
    refine wpAnyH_take (i := 14) (v := .pointer (some ⟨gz, 3, none⟩)) rfl (by kernel_rfl) (by kernel_rfl) (by kernel_rfl) (fun _ _ _ h => h) (Or.inl ⟨by kernel_rfl, fun w hS => by go_simp⟩) hd ?_
    change wpAnyH _ _ _ _ _ _ _ (Act.put _ (some 72) (.pointer (some ⟨gz, 3, none⟩))) _
    simp only [Act.put, List.setIfInBounds_toArray, List.set_cons_zero, List.set_cons_succ]
    refine wpAnyH_take (i := 15) (v := .int .i64 y3) rfl (by kernel_rfl) (by kernel_rfl) (by kernel_rfl) (fun _ _ _ h => h) (Or.inl ⟨by kernel_rfl, fun w hS => by have hS1 := hS.1; have hS2 := hS.2; go_simp⟩) hd ?_
    change wpAnyH _ _ _ _ _ _ _ (Act.put _ (some 73) (.int .i64 y3)) _
    simp only [Act.put, List.setIfInBounds_toArray, List.set_cons_zero, List.set_cons_succ]
    refine wpAnyH_take (i := 16) (v := .slice (some ⟨gz, 0, none⟩) 5 cx) rfl (by kernel_rfl) (by kernel_rfl) (by kernel_rfl) (fun _ _ _ h => h) (Or.inl ⟨by kernel_rfl, fun w _ => by kernel_rfl⟩) hd ?_
    change wpAnyH _ _ _ _ _ _ _ (Act.put _ (some 74) (.slice (some ⟨gz, 0, none⟩) 5 cx)) _
    simp only [Act.put, List.setIfInBounds_toArray, List.set_cons_zero, List.set_cons_succ]
    refine wpAnyH_take (i := 17) (v := .int .i64 3) rfl (by kernel_rfl) (by kernel_rfl) (by kernel_rfl) (fun _ _ _ h => h) (Or.inl ⟨by kernel_rfl, fun w _ => by kernel_rfl⟩) hd ?_
    change wpAnyH _ _ _ _ _ _ _ (Act.put _ (some 75) (.int .i64 3)) _
    simp only [Act.put, List.setIfInBounds_toArray, List.set_cons_zero, List.set_cons_succ]
    refine wpAnyH_take (i := 18) (v := .int .i64 2) rfl (by kernel_rfl) (by kernel_rfl) (by kernel_rfl) (fun _ _ _ h => h) (Or.inl ⟨by kernel_rfl, fun w _ => by kernel_rfl⟩) hd ?_
    change wpAnyH _ _ _ _ _ _ _ (Act.put _ (some 76) (.int .i64 2)) _
    simp only [Act.put, List.setIfInBounds_toArray, List.set_cons_zero, List.set_cons_succ]
    refine wpAnyH_take (i := 19) (v := .pointer (some ⟨gz, 2, none⟩)) rfl (by kernel_rfl) (by kernel_rfl) (by kernel_rfl) (fun _ _ _ h => h) (Or.inl ⟨by kernel_rfl, fun w hS => by go_simp⟩) hd ?_
    change wpAnyH _ _ _ _ _ _ _ (Act.put _ (some 77) (.pointer (some ⟨gz, 2, none⟩))) _
    simp only [Act.put, List.setIfInBounds_toArray, List.set_cons_zero, List.set_cons_succ]
    refine wpAnyH_take (i := 20) (v := .int .i64 y2) rfl (by kernel_rfl) (by kernel_rfl) (by kernel_rfl) (fun _ _ _ h => h) (Or.inl ⟨by kernel_rfl, fun w hS => by have hS1 := hS.1; have hS2 := hS.2; go_simp⟩) hd ?_
    change wpAnyH _ _ _ _ _ _ _ (Act.put _ (some 78) (.int .i64 y2)) _
    simp only [Act.put, List.setIfInBounds_toArray, List.set_cons_zero, List.set_cons_succ]
    refine wpAnyH_take (i := 21) (v := .bool false) rfl (by kernel_rfl) (by kernel_rfl) (by kernel_rfl) (fun _ _ _ h => h) (Or.inl ⟨by kernel_rfl, fun w hS => by go_simp⟩) hd ?_
    change wpAnyH _ _ _ _ _ _ _ (Act.put _ (some 79) (.bool false)) _
    simp only [Act.put, List.setIfInBounds_toArray, List.set_cons_zero, List.set_cons_succ]
    refine wpAnyH_take (i := 22) (v := .bool false) rfl (by kernel_rfl) (by kernel_rfl) (by kernel_rfl) (fun _ _ _ h => h) (Or.inl ⟨by kernel_rfl, fun w hS => by go_simp⟩) hd ?_
    change wpAnyH _ _ _ _ _ _ _ (Act.put _ (some 80) (.bool false)) _
    simp only [Act.put, List.setIfInBounds_toArray, List.set_cons_zero, List.set_cons_succ]
    refine wpAnyH_take (i := 23) (v := .bool false) rfl (by kernel_rfl) (by kernel_rfl) (by kernel_rfl) (fun _ _ _ h => h) (Or.inl ⟨by kernel_rfl, fun w hS => by go_simp⟩) hd ?_
    change wpAnyH _ _ _ _ _ _ _ (Act.put _ (some 81) (.bool false)) _
    simp only [Act.put, List.setIfInBounds_toArray, List.set_cons_zero, List.set_cons_succ]
    refine wpAnyH_done (by kernel_rfl) ?_ _
    replace HBZ : Hid (Below w.heap.size w W3.drew) := Lib.hid HBZ.out.drew
    replace hc0 : W3.drew.cell? ⟨gz, 0, none⟩ = some (.int .i64 y0) := hc0
    replace hc1 : W3.drew.cell? ⟨gz, 1, none⟩ = some (.int .i64 y1) := hc1
    replace hc2 : W3.drew.cell? ⟨gz, 2, none⟩ = some (.int .i64 y2) := hc2
    replace hc3 : W3.drew.cell? ⟨gz, 3, none⟩ = some (.int .i64 y3) := hc3
    replace hc4 : W3.drew.cell? ⟨gz, 4, none⟩ = some (.int .i64 y4) := hc4
    clear hd
    generalize W3.drew = W4 at *
    go_wp2_with fail
    rw [rounds_succ]
    go_wp2_with fail
    refine wp_region_held_drew (S := fun w' => w'.cell? ⟨gz, 4, none⟩ = some (.int .i64 y4) ∧ w'.cell? ⟨gz, 3, none⟩ = some (.int .i64 y3)) (by kernel_rfl) ⟨hc4, hc3⟩ (fun hd => ?_)
    refine wpAnyH_take (i := 0) (v := .slice (some ⟨gz, 0, none⟩) 5 cx) rfl (by kernel_rfl) (by kernel_rfl) (by kernel_rfl) (fun _ _ _ h => h) (Or.inl ⟨by kernel_rfl, fun w _ => by kernel_rfl⟩) hd ?_
    change wpAnyH _ _ _ _ _ _ _ (Act.put _ (some 58) (.slice (some ⟨gz, 0, none⟩) 5 cx)) _
    simp only [Act.put, List.setIfInBounds_toArray, List.set_cons_zero, List.set_cons_succ]
    refine wpAnyH_take (i := 1) (v := .int .i64 4) rfl (by kernel_rfl) (by kernel_rfl) (by kernel_rfl) (fun _ _ _ h => h) (Or.inl ⟨by kernel_rfl, fun w _ => by kernel_rfl⟩) hd ?_
    change wpAnyH _ _ _ _ _ _ _ (Act.put _ (some 59) (.int .i64 4)) _
    simp only [Act.put, List.setIfInBounds_toArray, List.set_cons_zero, List.set_cons_succ]
    refine wpAnyH_take (i := 2) (v := .pointer (some ⟨gz, 4, none⟩)) rfl (by kernel_rfl) (by kernel_rfl) (by kernel_rfl) (fun _ _ _ h => h) (Or.inl ⟨by kernel_rfl, fun w hS => by go_simp⟩) hd ?_
    change wpAnyH _ _ _ _ _ _ _ (Act.put _ (some 60) (.pointer (some ⟨gz, 4, none⟩))) _
    simp only [Act.put, List.setIfInBounds_toArray, List.set_cons_zero, List.set_cons_succ]
    refine wpAnyH_take (i := 3) (v := .int .i64 y4) rfl (by kernel_rfl) (by kernel_rfl) (by kernel_rfl) (fun _ _ _ h => h) (Or.inl ⟨by kernel_rfl, fun w hS => by have hS1 := hS.1; have hS2 := hS.2; go_simp⟩) hd ?_
    change wpAnyH _ _ _ _ _ _ _ (Act.put _ (some 61) (.int .i64 y4)) _
    simp only [Act.put, List.setIfInBounds_toArray, List.set_cons_zero, List.set_cons_succ]
    refine wpAnyH_take (i := 4) (v := .int .i64 (P : Int)) rfl (by kernel_rfl) (by kernel_rfl) (by kernel_rfl) (fun _ _ _ h => h) (Or.inl ⟨by kernel_rfl, fun w _ => by kernel_rfl⟩) hd ?_
    change wpAnyH _ _ _ _ _ _ _ (Act.put _ (some 62) (.int .i64 (P : Int))) _
    simp only [Act.put, List.setIfInBounds_toArray, List.set_cons_zero, List.set_cons_succ]
    refine wpAnyH_take (i := 5) (v := .int .i64 (y4 / 2 ^ P)) rfl (by kernel_rfl) (by kernel_rfl) (by kernel_rfl) (fun _ _ _ h => h) (Or.inl ⟨by kernel_rfl, fun w hS => by go_simp⟩) hd ?_
    change wpAnyH _ _ _ _ _ _ _ (Act.put _ (some 63) (.int .i64 (y4 / 2 ^ P))) _
    simp only [Act.put, List.setIfInBounds_toArray, List.set_cons_zero, List.set_cons_succ]
    refine wpAnyH_take (i := 6) (v := .int .i64 1) rfl (by kernel_rfl) (by kernel_rfl) (by kernel_rfl) (fun _ _ _ h => h) (Or.inl ⟨by kernel_rfl, fun w hS => by go_simp⟩) hd ?_
    change wpAnyH _ _ _ _ _ _ _ (Act.put _ (some 64) (.int .i64 1)) _
    simp only [Act.put, List.setIfInBounds_toArray, List.set_cons_zero, List.set_cons_succ]
    refine wpAnyH_take (i := 7) (v := .bool false) rfl (by kernel_rfl) (by kernel_rfl) (by kernel_rfl) (fun _ _ _ h => h) (Or.inl ⟨by kernel_rfl, fun w hS => by go_simp⟩) hd ?_
    change wpAnyH _ _ _ _ _ _ _ (Act.put _ (some 65) (.bool false)) _
    simp only [Act.put, List.setIfInBounds_toArray, List.set_cons_zero, List.set_cons_succ]
    refine wpAnyH_take (i := 8) (v := .bool false) rfl (by kernel_rfl) (by kernel_rfl) (by kernel_rfl) (fun _ _ _ h => h) (Or.inl ⟨by kernel_rfl, fun w _ => by kernel_rfl⟩) hd ?_
    change wpAnyH _ _ _ _ _ _ _ (Act.put _ (some 66) (.bool false)) _
    simp only [Act.put, List.setIfInBounds_toArray, List.set_cons_zero, List.set_cons_succ]
    refine wpAnyH_take (i := 9) (v := .int .i64 4) rfl (by kernel_rfl) (by kernel_rfl) (by kernel_rfl) (fun _ _ _ h => h) (Or.inl ⟨by kernel_rfl, fun w _ => by kernel_rfl⟩) hd ?_
    change wpAnyH _ _ _ _ _ _ _ (Act.put _ (some 67) (.int .i64 4)) _
    simp only [Act.put, List.setIfInBounds_toArray, List.set_cons_zero, List.set_cons_succ]
    refine wpAnyH_take (i := 10) (v := .bool true) rfl (by kernel_rfl) (by kernel_rfl) (by kernel_rfl) (fun _ _ _ h => h) (Or.inl ⟨by kernel_rfl, fun w hS => by go_simp⟩) hd ?_
    change wpAnyH _ _ _ _ _ _ _ (Act.put _ (some 68) (.bool true)) _
    simp only [Act.put, List.setIfInBounds_toArray, List.set_cons_zero, List.set_cons_succ]
    refine wpAnyH_take (i := 11) (v := .bool true) rfl (by kernel_rfl) (by kernel_rfl) (by kernel_rfl) (fun _ _ _ h => h) (Or.inl ⟨by kernel_rfl, fun w _ => by kernel_rfl⟩) hd ?_
    change wpAnyH _ _ _ _ _ _ _ (Act.put _ (some 69) (.bool true)) _
    simp only [Act.put, List.setIfInBounds_toArray, List.set_cons_zero, List.set_cons_succ]
    refine wpAnyH_take (i := 12) (v := .slice (some ⟨gz, 0, none⟩) 5 cx) rfl (by kernel_rfl) (by kernel_rfl) (by kernel_rfl) (fun _ _ _ h => h) (Or.inl ⟨by kernel_rfl, fun w _ => by kernel_rfl⟩) hd ?_
    change wpAnyH _ _ _ _ _ _ _ (Act.put _ (some 70) (.slice (some ⟨gz, 0, none⟩) 5 cx)) _
    simp only [Act.put, List.setIfInBounds_toArray, List.set_cons_zero, List.set_cons_succ]
    refine wpAnyH_take (i := 13) (v := .int .i64 4) rfl (by kernel_rfl) (by kernel_rfl) (by kernel_rfl) (fun _ _ _ h => h) (Or.inl ⟨by kernel_rfl, fun w _ => by kernel_rfl⟩) hd ?_
    change wpAnyH _ _ _ _ _ _ _ (Act.put _ (some 71) (.int .i64 4)) _
    simp only [Act.put, List.setIfInBounds_toArray, List.set_cons_zero, List.set_cons_succ]
    refine wpAnyH_take (i := 14) (v := .pointer (some ⟨gz, 4, none⟩)) rfl (by kernel_rfl) (by kernel_rfl) (by kernel_rfl) (fun _ _ _ h => h) (Or.inl ⟨by kernel_rfl, fun w hS => by go_simp⟩) hd ?_
    change wpAnyH _ _ _ _ _ _ _ (Act.put _ (some 72) (.pointer (some ⟨gz, 4, none⟩))) _
    simp only [Act.put, List.setIfInBounds_toArray, List.set_cons_zero, List.set_cons_succ]
    refine wpAnyH_take (i := 15) (v := .int .i64 y4) rfl (by kernel_rfl) (by kernel_rfl) (by kernel_rfl) (fun _ _ _ h => h) (Or.inl ⟨by kernel_rfl, fun w hS => by have hS1 := hS.1; have hS2 := hS.2; go_simp⟩) hd ?_
    change wpAnyH _ _ _ _ _ _ _ (Act.put _ (some 73) (.int .i64 y4)) _
    simp only [Act.put, List.setIfInBounds_toArray, List.set_cons_zero, List.set_cons_succ]
    refine wpAnyH_take (i := 16) (v := .slice (some ⟨gz, 0, none⟩) 5 cx) rfl (by kernel_rfl) (by kernel_rfl) (by kernel_rfl) (fun _ _ _ h => h) (Or.inl ⟨by kernel_rfl, fun w _ => by kernel_rfl⟩) hd ?_
    change wpAnyH _ _ _ _ _ _ _ (Act.put _ (some 74) (.slice (some ⟨gz, 0, none⟩) 5 cx)) _
    simp only [Act.put, List.setIfInBounds_toArray, List.set_cons_zero, List.set_cons_succ]
    refine wpAnyH_take (i := 17) (v := .int .i64 4) rfl (by kernel_rfl) (by kernel_rfl) (by kernel_rfl) (fun _ _ _ h => h) (Or.inl ⟨by kernel_rfl, fun w _ => by kernel_rfl⟩) hd ?_
    change wpAnyH _ _ _ _ _ _ _ (Act.put _ (some 75) (.int .i64 4)) _
    simp only [Act.put, List.setIfInBounds_toArray, List.set_cons_zero, List.set_cons_succ]
    refine wpAnyH_take (i := 18) (v := .int .i64 3) rfl (by kernel_rfl) (by kernel_rfl) (by kernel_rfl) (fun _ _ _ h => h) (Or.inl ⟨by kernel_rfl, fun w _ => by kernel_rfl⟩) hd ?_
    change wpAnyH _ _ _ _ _ _ _ (Act.put _ (some 76) (.int .i64 3)) _
    simp only [Act.put, List.setIfInBounds_toArray, List.set_cons_zero, List.set_cons_succ]
    refine wpAnyH_take (i := 19) (v := .pointer (some ⟨gz, 3, none⟩)) rfl (by kernel_rfl) (by kernel_rfl) (by kernel_rfl) (fun _ _ _ h => h) (Or.inl ⟨by kernel_rfl, fun w hS => by go_simp⟩) hd ?_
    change wpAnyH _ _ _ _ _ _ _ (Act.put _ (some 77) (.pointer (some ⟨gz, 3, none⟩))) _
    simp only [Act.put, List.setIfInBounds_toArray, List.set_cons_zero, List.set_cons_succ]
    refine wpAnyH_take (i := 20) (v := .int .i64 y3) rfl (by kernel_rfl) (by kernel_rfl) (by kernel_rfl) (fun _ _ _ h => h) (Or.inl ⟨by kernel_rfl, fun w hS => by have hS1 := hS.1; have hS2 := hS.2; go_simp⟩) hd ?_
    change wpAnyH _ _ _ _ _ _ _ (Act.put _ (some 78) (.int .i64 y3)) _
    simp only [Act.put, List.setIfInBounds_toArray, List.set_cons_zero, List.set_cons_succ]
    refine wpAnyH_take (i := 21) (v := .bool false) rfl (by kernel_rfl) (by kernel_rfl) (by kernel_rfl) (fun _ _ _ h => h) (Or.inl ⟨by kernel_rfl, fun w hS => by go_simp⟩) hd ?_
    change wpAnyH _ _ _ _ _ _ _ (Act.put _ (some 79) (.bool false)) _
    simp only [Act.put, List.setIfInBounds_toArray, List.set_cons_zero, List.set_cons_succ]
    refine wpAnyH_take (i := 22) (v := .bool false) rfl (by kernel_rfl) (by kernel_rfl) (by kernel_rfl) (fun _ _ _ h => h) (Or.inl ⟨by kernel_rfl, fun w hS => by go_simp⟩) hd ?_
    change wpAnyH _ _ _ _ _ _ _ (Act.put _ (some 80) (.bool false)) _
    simp only [Act.put, List.setIfInBounds_toArray, List.set_cons_zero, List.set_cons_succ]
    refine wpAnyH_take (i := 23) (v := .bool false) rfl (by kernel_rfl) (by kernel_rfl) (by kernel_rfl) (fun _ _ _ h => h) (Or.inl ⟨by kernel_rfl, fun w hS => by go_simp⟩) hd ?_
    change wpAnyH _ _ _ _ _ _ _ (Act.put _ (some 81) (.bool false)) _
    simp only [Act.put, List.setIfInBounds_toArray, List.set_cons_zero, List.set_cons_succ]
    refine wpAnyH_done (by kernel_rfl) ?_ _
    replace HBZ : Hid (Below w.heap.size w W4.drew) := Lib.hid HBZ.out.drew
    replace hc0 : W4.drew.cell? ⟨gz, 0, none⟩ = some (.int .i64 y0) := hc0
    replace hc1 : W4.drew.cell? ⟨gz, 1, none⟩ = some (.int .i64 y1) := hc1
    replace hc2 : W4.drew.cell? ⟨gz, 2, none⟩ = some (.int .i64 y2) := hc2
    replace hc3 : W4.drew.cell? ⟨gz, 3, none⟩ = some (.int .i64 y3) := hc3
    replace hc4 : W4.drew.cell? ⟨gz, 4, none⟩ = some (.int .i64 y4) := hc4
    clear hd
    generalize W4.drew = W5 at *
    go_wp2_with fail
    rw [rounds_succ]
    go_wp2_with fail
    go_ret
    first | exact ⟨rfl, HBZ.out⟩ | exact HBZ.out
end Go.Proofs.YtmeejnkpaiinaacGreatDoor
