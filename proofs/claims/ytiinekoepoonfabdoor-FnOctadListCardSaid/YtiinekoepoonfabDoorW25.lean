/- The walk of promise 31. -/
import Derived.Test.YtiinekoepoonfabDoorC45
import Derived.Test.YtiinekoepoonfabDoorC42
import Derived.Test.YtiinekoepoonfabDoorM22
import Derived.Test.YtiinekoepoonfabDoorM8
import Derived.Deep.RegionHeld3
namespace Go.Proofs.YtiinekoepoonfabDoor
open Go.RowKit
set_option linter.unusedVariables false
attribute [local irreducible] octS cN octF

theorem DrawOctadList_calls (A : Option Addr) (c : Nat) (bs : List Int) (w : World) (hr : Rds w w.heap.size .u8 A bs) (hc : bs.length ≤ c) (hm : c ≤ maxLen) (hv : ∀ i, 0 ≤ bs.getD i 0 ∧ bs.getD i 0 ≤ 255) :
    Calls Tryd.prog 20 #[.slice A bs.length c] w fun e w' => ∃ (v : Value) (xs : List Int), e = .returned v ∧ Own w' w.heap.size v xs ∧ xs.length ≤ 6 ∧ Below w.heap.size w w' := by
  go_enter Tryd.func20, Tryd.ntmps20
  go_wp2_with fail
  refine (l6Open_calls A c bs _ hr hc hm hv).mono ?_
  rintro e w1 ⟨g, rfl, hg, r1, b1⟩
  go_wp2_with fail
  refine (pick_calls g 0 5 _ r1 (by omega) (by omega) (by omega)).mono ?_
  rintro e w2 ⟨n, rfl, n0, n1, r2, g2⟩
  go_wp2_with fail
  refine (l91Places_calls g _ (2 + n) _ r2 (by omega) (by omega) (by omega)).mono ?_
  rintro e w3 ⟨v, xs, q', rfl, o3, hl, _, _, r3, g3⟩
  go_wp2_with fail
  go_ret
  exact ⟨v, xs, rfl, o3.weak (Nat.le_trans b1.size g2.size), by omega, b1.trans ((grown_below g2 hg b1.size).trans (grown_below g3 hg (Nat.le_trans b1.size g2.size)))⟩
theorem oList_no {xs : List Int} (h : (oList xs).2 = false) : oList xs = ([], false) := by
  unfold oList at h ⊢
  rcases hf : wof xs with _ | t
  · rfl
  · rw [hf] at h
    dsimp only at h ⊢
    split
    · rename_i h3; rw [if_pos h3] at h; simp at h
    · rfl
theorem oList_yes {xs : List Int} (h : (oList xs).2 = true) : ∃ t, wof xs = some t ∧ IsW t ∧ wt t = xs.length ∧ 3 ≤ xs.length ∧ xs.length ≤ 8 ∧ oList xs = (oWith t, true) := by
  unfold oList at h
  rcases hf : wof xs with _ | t
  · rw [hf] at h; simp at h
  · rw [hf] at h
    dsimp only at h
    split at h
    · rename_i h3
      obtain ⟨h1, h2⟩ := wof_is hf
      exact ⟨t, rfl, h1, h2, h3.1, h3.2, by simp [oList, hf, h3]⟩
    · simp at h
theorem oWith_num {t : Int} (h : IsW t) (n : Nat) (hn : wt t = n) (h3 : 3 ≤ n) (h8 : n ≤ 8) : (n = 3 ∧ (oWith t).length = 21) ∨ (n = 4 ∧ (oWith t).length = 5) ∨ (n = 5 ∧ (oWith t).length = 1) ∨ (5 < n ∧ (oWith t).length ≤ 1) := by
  obtain ⟨T, rfl⟩ := Int.eq_ofNat_of_zero_le h.1
  have hT := h.2
  rw [oWith_thr]
  rw [wt_pop] at hn
  have hp : pop T = n := by omega
  by_cases e3 : n = 3
  · exact .inl ⟨e3, thr3 T (by omega) (by omega)⟩
  by_cases e4 : n = 4
  · exact .inr (.inl ⟨e4, thr4 T (by omega) (by omega)⟩)
  by_cases e5 : n = 5
  · exact .inr (.inr (.inl ⟨e5, thr5 T (by omega) (by omega)⟩))
  · exact .inr (.inr (.inr ⟨by omega, thr_le T (by omega)⟩))
theorem oct_in {x : Int} (h : IsOct x) : oIn x = true := by
  have hr := h.rng
  obtain ⟨m, hm, e, h8⟩ := h
  rw [oIn_of hr, h8, (codeIn_iff x hr.1 hr.2).2 ⟨m, hm, e⟩]
  rfl
set_option maxRecDepth 100000 in
set_option maxHeartbeats 4000000 in
theorem walk_FnOctadList (a0 : Option Addr) (len0 cap0 : Nat) (z0 : List Int) (w : World) (w0 : IsRow .u8 w a0 len0 cap0 z0) (hT : Tab3 w) :
    Calls Tryd.prog 5 #[.slice a0 len0 cap0] w fun e w' => e = .returned (.bool true) ∧ Below w.heap.size w w' := by
  obtain ⟨bs, rfl, hr, hc, hm, hv⟩ := w0.bytes
  have hm' := hm
  unfold maxLen at hm'
  by_cases hbig : 1048576 < bs.length
  · go_enter Tryd.func5, Tryd.ntmps5
    go_wp2_with fail
    go_ret
    exact ⟨rfl, Below.refl _ _⟩
  have hbig' : bs.length ≤ 1048576 := by omega
  clear hbig
  go_enter Tryd.func5, Tryd.ntmps5
  go_wp2_with fail
  refine (DrawOctadList_calls _ _ bs _ hr hc hm hv).mono ?_
  rintro e w1 ⟨v, xs, rfl, o1, hl6, b1⟩
  obtain ⟨Az, cz, rfl⟩ := o1.slice
  have B0 := Lib.hid (b1)
  have Oz0 := Lib.hid (o1)
  rcases hb : (oList xs).2 with _ | _
  · have H := Lib.hid (oList_no hb)
    clear hb
    go_wp2_with fail
    refine (iOctadList_calls _ _ xs _ (Oz0.out).rds (Oz0.out).len_le (hT.below (B0.out) hT.lt).2).mono ?_
    rintro e w1_ ⟨v1_, he, o1_, b1_⟩
    rw [H.out] at he o1_
    dsimp only at he o1_
    subst he
    obtain ⟨Ax, cx, rfl⟩ := o1_.slice
    have B1 := Lib.hid ((B0.out).trans (b1_.mono (B0.out).size))
    have Oz1 := Lib.hid ((Oz0.out).below b1_)
    have Ox1 := Lib.hid (o1_.weak (B0.out).size)
    go_wp2_with fail
    refine (sOctadList_calls _ _ xs _ (Oz1.out).rds (Oz1.out).len_le).mono ?_
    rintro e w2_ ⟨v2_, he, o2_, b2_⟩
    rw [H.out] at he o2_
    dsimp only at he o2_
    subst he
    obtain ⟨Ay, cy, rfl⟩ := o2_.slice
    have B2 := Lib.hid ((B1.out).trans (b2_.mono (B1.out).size))
    have Oz2 := Lib.hid ((Oz1.out).below b2_)
    have Ox2 := Lib.hid ((Ox1.out).below b2_)
    have Oy2 := Lib.hid (o2_.weak (B1.out).size)
    go_wp2_with fail
    refine (sameInts_calls _ _ _ _ [] [] _ (Ox2.out).rds (Oy2.out).rds (Ox2.out).len_le (Oy2.out).len_le).mono ?_
    rintro e w' ⟨he, k3_, rfl⟩
    rw [eqL_refl] at he
    subst he
    have B3 := Lib.hid (below_drewN (B2.out) k3_)
    have Oz3 := Lib.hid ((Oz2.out).drewN k3_)
    have Ox3 := Lib.hid ((Ox2.out).drewN k3_)
    have Oy3 := Lib.hid ((Oy2.out).drewN k3_)
    go_wp2_with fail
    refine (sameInts_calls _ _ _ _ [] [] _ (Ox3.out).rds (Oy3.out).rds (Ox3.out).len_le (Oy3.out).len_le).mono ?_
    rintro e w' ⟨he, k4_, rfl⟩
    rw [eqL_refl] at he
    subst he
    have B4 := Lib.hid (below_drewN (B3.out) k4_)
    have Oz4 := Lib.hid ((Oz3.out).drewN k4_)
    have Ox4 := Lib.hid ((Ox3.out).drewN k4_)
    have Oy4 := Lib.hid ((Oy3.out).drewN k4_)
    go_wp2_with fail
    go_ret
    first | exact ⟨rfl, B4.out⟩ | exact ⟨rfl, by have hB := B4.out; simp only [World.drewN_drewN] at hB; exact hB⟩
  · obtain ⟨t, ht, wt1, wt2, h3, h8, hO⟩ := oList_yes hb
    have hnum := oWith_num wt1 xs.length wt2 h3 h8
    have H := Lib.hid hO
    have HW := Lib.hid ht
    have HAT := Lib.hid (fun j (hj : j < (oWith t).length) => (oWith_mem.1 (by rw [← getD_at (oWith t) j hj]; exact List.getElem_mem _ : (oWith t).getD j 0 ∈ oWith t)))
    have HASC := Lib.hid (fun i j (hij : i < j) (hj : j < (oWith t).length) => asc_get (oWith_asc t) hij hj)
    have hol := oWith_len t
    clear hb ht wt2 hO
    generalize oWith t = zs at *
    go_wp2_with fail
    refine (iOctadList_calls _ _ xs _ (Oz0.out).rds (Oz0.out).len_le (hT.below (B0.out) hT.lt).2).mono ?_
    rintro e w1_ ⟨v1_, he, o1_, b1_⟩
    rw [H.out] at he o1_
    dsimp only at he o1_
    subst he
    obtain ⟨Ax, cx, rfl⟩ := o1_.slice
    have B1 := Lib.hid ((B0.out).trans (b1_.mono (B0.out).size))
    have Oz1 := Lib.hid ((Oz0.out).below b1_)
    have Ox1 := Lib.hid (o1_.weak (B0.out).size)
    go_wp2_with fail
    refine (sOctadList_calls _ _ xs _ (Oz1.out).rds (Oz1.out).len_le).mono ?_
    rintro e w2_ ⟨v2_, he, o2_, b2_⟩
    rw [H.out] at he o2_
    dsimp only at he o2_
    subst he
    obtain ⟨Ay, cy, rfl⟩ := o2_.slice
    have B2 := Lib.hid ((B1.out).trans (b2_.mono (B1.out).size))
    have Oz2 := Lib.hid ((Oz1.out).below b2_)
    have Ox2 := Lib.hid ((Ox1.out).below b2_)
    have Oy2 := Lib.hid (o2_.weak (B1.out).size)
    go_wp2_with fail
    refine (sameInts_calls _ _ _ _ zs zs _ (Ox2.out).rds (Oy2.out).rds (Ox2.out).len_le (Oy2.out).len_le).mono ?_
    rintro e w' ⟨he, k3_, rfl⟩
    rw [eqL_refl] at he
    subst he
    have B3 := Lib.hid (below_drewN (B2.out) k3_)
    have Oz3 := Lib.hid ((Oz2.out).drewN k3_)
    have Ox3 := Lib.hid ((Ox2.out).drewN k3_)
    have Oy3 := Lib.hid ((Oy2.out).drewN k3_)
    go_wp2_with fail
    refine (iWordOf_calls _ _ xs _ (Oz3.out).rds (Oz3.out).len_le).mono ?_
    rintro e w' ⟨he, rfl⟩
    rw [HW.out] at he
    simp only [resW] at he
    subst he
    have HX := Lib.hid (Ox3.out)
    have HBZ := Lib.hid (B3.out)
    go_wp2_with fail
    go_loopw [10] (fun i wr => ∃ k : Nat, k ≤ zs.length ∧ i = .int .i64 k ∧ Hid (Own wr w.heap.size (.slice Ax zs.length cx) zs) ∧ Hid (Below w.heap.size w wr)) (fun i _ => zs.length - (intOf i).toNat)
    case atStart => exact ⟨0, by omega, rfl, HX, HBZ⟩
    case round =>
      obtain ⟨k, hk, rfl, ho, hbl⟩ := hrel
      by_cases hlt : k < zs.length
      · obtain ⟨g, rfl, _, _⟩ := own_at ho.out (by omega)
        obtain ⟨hoct, hsub⟩ := HAT.out k hlt
        have hc0 := ho.out.cell (j := k) hlt
        have hxw : IsW (zs.getD k 0) := hoct.rng
        have HM := Lib.hid (fun w => by have := iWordMeet_ok (zs.getD k 0) t w hxw wt1; rwa [hsub] at this)
        have HIN := Lib.hid (oct_in hoct)
        clear hoct hsub hxw
        rcases k with _ | k
        · obtain ⟨y, hy⟩ : ∃ y, zs.getD 0 0 = y := ⟨_, rfl⟩
          rw [hy] at hc0 HM HIN
          have HY := Lib.hid hy
          clear hy
          go_wp2_with fail
          refine (HM.out _).mono ?_
          rintro e w' ⟨rfl, rfl⟩
          go_wp2_with fail
          refine wp_region_held_drew (S := fun w' => w'.cell? ⟨g, 0, none⟩ = some (.int .i64 y)) (by kernel_rfl) hc0 (fun hd => ?_)
          refine wpAnyH_take (i := 0) (v := .bool true) rfl (by kernel_rfl) (by kernel_rfl) (by kernel_rfl) (fun _ _ _ h => h) (Or.inl ⟨by kernel_rfl, fun w _ => by kernel_rfl⟩) hd ?_
          change wpAnyH _ _ _ _ _ _ _ (Act.put _ (some 71) (.bool true)) _
          simp only [Act.put, List.setIfInBounds_toArray, List.set_cons_zero, List.set_cons_succ]
          refine wpAnyH_take (i := 1) (v := .bool false) rfl (by kernel_rfl) (by kernel_rfl) (by kernel_rfl) (fun _ _ _ h => h) (Or.inl ⟨by kernel_rfl, fun w _ => by kernel_rfl⟩) hd ?_
          change wpAnyH _ _ _ _ _ _ _ (Act.put _ (some 72) (.bool false)) _
          simp only [Act.put, List.setIfInBounds_toArray, List.set_cons_zero, List.set_cons_succ]
          refine wpAnyH_take (i := 2) (v := .bool false) rfl (by kernel_rfl) (by kernel_rfl) (by kernel_rfl) (fun _ _ _ h => h) (Or.inl ⟨by kernel_rfl, fun w _ => by kernel_rfl⟩) hd ?_
          change wpAnyH _ _ _ _ _ _ _ (Act.put _ (some 73) (.bool false)) _
          simp only [Act.put, List.setIfInBounds_toArray, List.set_cons_zero, List.set_cons_succ]
          refine wpAnyH_take (i := 3) (v := .int .i64 t) rfl (by kernel_rfl) (by kernel_rfl) (by kernel_rfl) (fun _ _ _ h => h) (Or.inl ⟨by kernel_rfl, fun w _ => by kernel_rfl⟩) hd ?_
          change wpAnyH _ _ _ _ _ _ _ (Act.put _ (some 74) (.int .i64 t)) _
          simp only [Act.put, List.setIfInBounds_toArray, List.set_cons_zero, List.set_cons_succ]
          refine wpAnyH_take (i := 4) (v := .int .i64 t) rfl (by kernel_rfl) (by kernel_rfl) (by kernel_rfl) (fun _ _ _ h => h) (Or.inl ⟨by kernel_rfl, fun w _ => by kernel_rfl⟩) hd ?_
          change wpAnyH _ _ _ _ _ _ _ (Act.put _ (some 75) (.int .i64 t)) _
          simp only [Act.put, List.setIfInBounds_toArray, List.set_cons_zero, List.set_cons_succ]
          refine wpAnyH_take (i := 5) (v := .bool false) rfl (by kernel_rfl) (by kernel_rfl) (by kernel_rfl) (fun _ _ _ h => h) (Or.inl ⟨by kernel_rfl, fun w hS => by go_simp⟩) hd ?_
          change wpAnyH _ _ _ _ _ _ _ (Act.put _ (some 76) (.bool false)) _
          simp only [Act.put, List.setIfInBounds_toArray, List.set_cons_zero, List.set_cons_succ]
          refine wpAnyH_take (i := 6) (v := .bool false) rfl (by kernel_rfl) (by kernel_rfl) (by kernel_rfl) (fun _ _ _ h => h) (Or.inl ⟨by kernel_rfl, fun w _ => by kernel_rfl⟩) hd ?_
          change wpAnyH _ _ _ _ _ _ _ (Act.put _ (some 77) (.bool false)) _
          simp only [Act.put, List.setIfInBounds_toArray, List.set_cons_zero, List.set_cons_succ]
          refine wpAnyH_take (i := 7) (v := .bool false) rfl (by kernel_rfl) (by kernel_rfl) (by kernel_rfl) (fun _ _ _ h => h) (Or.inl ⟨by kernel_rfl, fun w _ => by kernel_rfl⟩) hd ?_
          change wpAnyH _ _ _ _ _ _ _ (Act.put _ (some 78) (.bool false)) _
          simp only [Act.put, List.setIfInBounds_toArray, List.set_cons_zero, List.set_cons_succ]
          refine wpAnyH_take (i := 8) (v := .slice (some ⟨g, 0, none⟩) zs.length cx) rfl (by kernel_rfl) (by kernel_rfl) (by kernel_rfl) (fun _ _ _ h => h) (Or.inl ⟨by kernel_rfl, fun w _ => by kernel_rfl⟩) hd ?_
          change wpAnyH _ _ _ _ _ _ _ (Act.put _ (some 79) (.slice (some ⟨g, 0, none⟩) zs.length cx)) _
          simp only [Act.put, List.setIfInBounds_toArray, List.set_cons_zero, List.set_cons_succ]
          refine wpAnyH_take (i := 9) (v := .int .i64 0) rfl (by kernel_rfl) (by kernel_rfl) (by kernel_rfl) (fun _ _ _ h => h) (Or.inl ⟨by kernel_rfl, fun w _ => by kernel_rfl⟩) hd ?_
          change wpAnyH _ _ _ _ _ _ _ (Act.put _ (some 80) (.int .i64 0)) _
          simp only [Act.put, List.setIfInBounds_toArray, List.set_cons_zero, List.set_cons_succ]
          refine wpAnyH_take (i := 10) (v := .pointer (some ⟨g, 0, none⟩)) rfl (by kernel_rfl) (by kernel_rfl) (by kernel_rfl) (fun _ _ _ h => h) (Or.inl ⟨by kernel_rfl, fun w hS => by go_simp⟩) hd ?_
          change wpAnyH _ _ _ _ _ _ _ (Act.put _ (some 81) (.pointer (some ⟨g, 0, none⟩))) _
          simp only [Act.put, List.setIfInBounds_toArray, List.set_cons_zero, List.set_cons_succ]
          refine wpAnyH_take (i := 11) (v := .int .i64 y) rfl (by kernel_rfl) (by kernel_rfl) (by kernel_rfl) (fun _ _ _ h => h) (Or.inl ⟨by kernel_rfl, fun w hS => by go_simp⟩) hd ?_
          change wpAnyH _ _ _ _ _ _ _ (Act.put _ (some 82) (.int .i64 y)) _
          simp only [Act.put, List.setIfInBounds_toArray, List.set_cons_zero, List.set_cons_succ]
          refine wpAnyH_ready (rs := [12]) (by kernel_rfl) (by simp) ?_
          refine AllReadyH.cons rfl (fun K hK => ?_) AllReadyH.nil
          go_simp
          go_at_call 11
          refine (iOctadIn_calls y _ (hT.below (by first | exact hbl.out | exact below_drewN hbl.out _ | exact (below_drewN hbl.out _).drew | exact hbl.out.drew) hT.lt)).mono ?_
          rintro e w5 ⟨he, b5⟩
          rw [HIN.out] at he
          subst he
          have HO5 := Lib.hid (Own.below (by exact ho.out) b5)
          have HB5 := Lib.hid (Below.trans (by first | exact hbl.out | exact below_drewN hbl.out _ | exact (below_drewN hbl.out _).drew | exact hbl.out.drew) (b5.mono (Below.size (by first | exact hbl.out | exact below_drewN hbl.out _ | exact (below_drewN hbl.out _).drew | exact hbl.out.drew))))
          have hd2 := HO5.out.cell (j := 0) hlt
          rw [HY.out] at hd2
          refine hK.out _ _ hd2 (fun _ => ?_)
          refine wpAnyH_take (i := 13) (v := .bool false) rfl (by kernel_rfl) (by kernel_rfl) (by kernel_rfl) (fun _ _ _ h => h) (Or.inl ⟨by kernel_rfl, fun w _ => by kernel_rfl⟩) hd2 ?_
          change wpAnyH _ _ _ _ _ _ _ (Act.put _ (some 84) (.bool false)) _
          simp only [Act.put, List.setIfInBounds_toArray, List.set_cons_zero, List.set_cons_succ]
          refine wpAnyH_take (i := 14) (v := .bool false) rfl (by kernel_rfl) (by kernel_rfl) (by kernel_rfl) (fun _ _ _ h => h) (Or.inl ⟨by kernel_rfl, fun w _ => by kernel_rfl⟩) hd2 ?_
          change wpAnyH _ _ _ _ _ _ _ (Act.put _ (some 85) (.bool false)) _
          simp only [Act.put, List.setIfInBounds_toArray, List.set_cons_zero, List.set_cons_succ]
          refine wpAnyH_take (i := 15) (v := .bool false) rfl (by kernel_rfl) (by kernel_rfl) (by kernel_rfl) (fun _ _ _ h => h) (Or.inl ⟨by kernel_rfl, fun w _ => by kernel_rfl⟩) hd2 ?_
          change wpAnyH _ _ _ _ _ _ _ (Act.put _ (some 86) (.bool false)) _
          simp only [Act.put, List.setIfInBounds_toArray, List.set_cons_zero, List.set_cons_succ]
          refine wpAnyH_take (i := 16) (v := .int .i64 0) rfl (by kernel_rfl) (by kernel_rfl) (by kernel_rfl) (fun _ _ _ h => h) (Or.inl ⟨by kernel_rfl, fun w _ => by kernel_rfl⟩) hd2 ?_
          change wpAnyH _ _ _ _ _ _ _ (Act.put _ (some 87) (.int .i64 0)) _
          simp only [Act.put, List.setIfInBounds_toArray, List.set_cons_zero, List.set_cons_succ]
          refine wpAnyH_take (i := 17) (v := .bool false) rfl (by kernel_rfl) (by kernel_rfl) (by kernel_rfl) (fun _ _ _ h => h) (Or.inl ⟨by kernel_rfl, fun w hS => by go_simp⟩) hd2 ?_
          change wpAnyH _ _ _ _ _ _ _ (Act.put _ (some 88) (.bool false)) _
          simp only [Act.put, List.setIfInBounds_toArray, List.set_cons_zero, List.set_cons_succ]
          refine wpAnyH_take (i := 18) (v := .bool false) rfl (by kernel_rfl) (by kernel_rfl) (by kernel_rfl) (fun _ _ _ h => h) (Or.inl ⟨by kernel_rfl, fun w _ => by kernel_rfl⟩) hd2 ?_
          change wpAnyH _ _ _ _ _ _ _ (Act.put _ (some 89) (.bool false)) _
          simp only [Act.put, List.setIfInBounds_toArray, List.set_cons_zero, List.set_cons_succ]
          refine wpAnyH_take (i := 19) (v := undef) rfl (by kernel_rfl) (by kernel_rfl) (by kernel_rfl) (fun _ _ _ h => h) (Or.inr ⟨by kernel_rfl, rfl⟩) hd2 ?_
          change wpAnyH _ _ _ _ _ _ _ (Act.put _ (some 90) (undef)) _
          simp only [Act.put, List.setIfInBounds_toArray, List.set_cons_zero, List.set_cons_succ]
          refine wpAnyH_take (i := 20) (v := undef) rfl (by kernel_rfl) (by kernel_rfl) (by kernel_rfl) (fun _ _ _ h => h) (Or.inr ⟨by kernel_rfl, rfl⟩) hd2 ?_
          change wpAnyH _ _ _ _ _ _ _ (Act.put _ (some 91) (undef)) _
          simp only [Act.put, List.setIfInBounds_toArray, List.set_cons_zero, List.set_cons_succ]
          refine wpAnyH_take (i := 21) (v := undef) rfl (by kernel_rfl) (by kernel_rfl) (by kernel_rfl) (fun _ _ _ h => h) (Or.inr ⟨by kernel_rfl, rfl⟩) hd2 ?_
          change wpAnyH _ _ _ _ _ _ _ (Act.put _ (some 92) (undef)) _
          simp only [Act.put, List.setIfInBounds_toArray, List.set_cons_zero, List.set_cons_succ]
          refine wpAnyH_take (i := 22) (v := undef) rfl (by kernel_rfl) (by kernel_rfl) (by kernel_rfl) (fun _ _ _ h => h) (Or.inr ⟨by kernel_rfl, rfl⟩) hd2 ?_
          change wpAnyH _ _ _ _ _ _ _ (Act.put _ (some 93) (undef)) _
          simp only [Act.put, List.setIfInBounds_toArray, List.set_cons_zero, List.set_cons_succ]
          refine wpAnyH_take (i := 23) (v := undef) rfl (by kernel_rfl) (by kernel_rfl) (by kernel_rfl) (fun _ _ _ h => h) (Or.inr ⟨by kernel_rfl, rfl⟩) hd2 ?_
          change wpAnyH _ _ _ _ _ _ _ (Act.put _ (some 94) (undef)) _
          simp only [Act.put, List.setIfInBounds_toArray, List.set_cons_zero, List.set_cons_succ]
          refine wpAnyH_take (i := 24) (v := undef) rfl (by kernel_rfl) (by kernel_rfl) (by kernel_rfl) (fun _ _ _ h => h) (Or.inr ⟨by kernel_rfl, rfl⟩) hd2 ?_
          change wpAnyH _ _ _ _ _ _ _ (Act.put _ (some 95) (undef)) _
          simp only [Act.put, List.setIfInBounds_toArray, List.set_cons_zero, List.set_cons_succ]
          refine wpAnyH_take (i := 25) (v := undef) rfl (by kernel_rfl) (by kernel_rfl) (by kernel_rfl) (fun _ _ _ h => h) (Or.inr ⟨by kernel_rfl, rfl⟩) hd2 ?_
          change wpAnyH _ _ _ _ _ _ _ (Act.put _ (some 96) (undef)) _
          simp only [Act.put, List.setIfInBounds_toArray, List.set_cons_zero, List.set_cons_succ]
          refine wpAnyH_take (i := 26) (v := undef) rfl (by kernel_rfl) (by kernel_rfl) (by kernel_rfl) (fun _ _ _ h => h) (Or.inr ⟨by kernel_rfl, rfl⟩) hd2 ?_
          change wpAnyH _ _ _ _ _ _ _ (Act.put _ (some 97) (undef)) _
          simp only [Act.put, List.setIfInBounds_toArray, List.set_cons_zero, List.set_cons_succ]
          refine wpAnyH_take (i := 27) (v := undef) rfl (by kernel_rfl) (by kernel_rfl) (by kernel_rfl) (fun _ _ _ h => h) (Or.inr ⟨by kernel_rfl, rfl⟩) hd2 ?_
          change wpAnyH _ _ _ _ _ _ _ (Act.put _ (some 98) (undef)) _
          simp only [Act.put, List.setIfInBounds_toArray, List.set_cons_zero, List.set_cons_succ]
          refine wpAnyH_take (i := 28) (v := undef) rfl (by kernel_rfl) (by kernel_rfl) (by kernel_rfl) (fun _ _ _ h => h) (Or.inr ⟨by kernel_rfl, rfl⟩) hd2 ?_
          change wpAnyH _ _ _ _ _ _ _ (Act.put _ (some 99) (undef)) _
          simp only [Act.put, List.setIfInBounds_toArray, List.set_cons_zero, List.set_cons_succ]
          refine wpAnyH_take (i := 29) (v := .bool false) rfl (by kernel_rfl) (by kernel_rfl) (by kernel_rfl) (fun _ _ _ h => h) (Or.inl ⟨by kernel_rfl, fun w _ => by kernel_rfl⟩) hd2 ?_
          change wpAnyH _ _ _ _ _ _ _ (Act.put _ (some 100) (.bool false)) _
          simp only [Act.put, List.setIfInBounds_toArray, List.set_cons_zero, List.set_cons_succ]
          refine wpAnyH_take (i := 30) (v := .bool false) rfl (by kernel_rfl) (by kernel_rfl) (by kernel_rfl) (fun _ _ _ h => h) (Or.inl ⟨by kernel_rfl, fun w _ => by kernel_rfl⟩) hd2 ?_
          change wpAnyH _ _ _ _ _ _ _ (Act.put _ (some 101) (.bool false)) _
          simp only [Act.put, List.setIfInBounds_toArray, List.set_cons_zero, List.set_cons_succ]
          refine wpAnyH_done (by kernel_rfl) ?_ _
          go_wp2_with fail
          go_roundw
          case rel => exact ⟨1, by omega, rfl, HO5, HB5⟩
          case measure =>
            show zs.length - 1 < zs.length - 0
            omega
        · have hkp : (0 : Int) < (k : Int) + 1 := by omega
          have hk0 : (0 : Int) ≤ (k : Int) := by omega
          have hk1 : (k : Int) < (zs.length : Int) := by omega
          have hk2 : (k : Int) + 1 < (zs.length : Int) := by omega
          have hk3 : (0 : Int) ≤ (k : Int) + 1 := by omega
          have hwk : IntKind.i64.wrap (k : Int) = (k : Int) := by rw [IntKind.wrap_i64]; omega
          have hwk1 : IntKind.i64.wrap ((k : Int) + 1 - 1) = (k : Int) := by rw [IntKind.wrap_i64]; omega
          have hlt2 : zs.getD k 0 < zs.getD (k + 1) 0 := HASC.out k (k + 1) (by omega) hlt
          have hc1 := ho.out.cell (j := k) (by omega)
          obtain ⟨y, hy⟩ : ∃ y, zs.getD (k + 1) 0 = y := ⟨_, rfl⟩
          obtain ⟨y1, hy1⟩ : ∃ y1, zs.getD k 0 = y1 := ⟨_, rfl⟩
          rw [hy] at hc0 HM HIN hlt2
          rw [hy1] at hc1 hlt2
          have HY := Lib.hid hy
          have HY1 := Lib.hid hy1
          clear hy hy1
          go_wp2_with fail
          refine (HM.out _).mono ?_
          rintro e w' ⟨rfl, rfl⟩
          go_wp2_with fail
          have hnle : ¬ y ≤ y1 := by omega
          refine wp_region_held_drew (S := fun w' => w'.cell? ⟨g, k + 1, none⟩ = some (.int .i64 y) ∧ w'.cell? ⟨g, k, none⟩ = some (.int .i64 y1)) (by kernel_rfl) ⟨hc0, hc1⟩ (fun hd => ?_)
          refine wpAnyH_take (i := 0) (v := .bool true) rfl (by kernel_rfl) (by kernel_rfl) (by kernel_rfl) (fun _ _ _ h => h) (Or.inl ⟨by kernel_rfl, fun w _ => by kernel_rfl⟩) hd ?_
          change wpAnyH _ _ _ _ _ _ _ (Act.put _ (some 71) (.bool true)) _
          simp only [Act.put, List.setIfInBounds_toArray, List.set_cons_zero, List.set_cons_succ]
          refine wpAnyH_take (i := 1) (v := .bool false) rfl (by kernel_rfl) (by kernel_rfl) (by kernel_rfl) (fun _ _ _ h => h) (Or.inl ⟨by kernel_rfl, fun w _ => by kernel_rfl⟩) hd ?_
          change wpAnyH _ _ _ _ _ _ _ (Act.put _ (some 72) (.bool false)) _
          simp only [Act.put, List.setIfInBounds_toArray, List.set_cons_zero, List.set_cons_succ]
          refine wpAnyH_take (i := 2) (v := .bool false) rfl (by kernel_rfl) (by kernel_rfl) (by kernel_rfl) (fun _ _ _ h => h) (Or.inl ⟨by kernel_rfl, fun w _ => by kernel_rfl⟩) hd ?_
          change wpAnyH _ _ _ _ _ _ _ (Act.put _ (some 73) (.bool false)) _
          simp only [Act.put, List.setIfInBounds_toArray, List.set_cons_zero, List.set_cons_succ]
          refine wpAnyH_take (i := 3) (v := .int .i64 t) rfl (by kernel_rfl) (by kernel_rfl) (by kernel_rfl) (fun _ _ _ h => h) (Or.inl ⟨by kernel_rfl, fun w _ => by kernel_rfl⟩) hd ?_
          change wpAnyH _ _ _ _ _ _ _ (Act.put _ (some 74) (.int .i64 t)) _
          simp only [Act.put, List.setIfInBounds_toArray, List.set_cons_zero, List.set_cons_succ]
          refine wpAnyH_take (i := 4) (v := .int .i64 t) rfl (by kernel_rfl) (by kernel_rfl) (by kernel_rfl) (fun _ _ _ h => h) (Or.inl ⟨by kernel_rfl, fun w _ => by kernel_rfl⟩) hd ?_
          change wpAnyH _ _ _ _ _ _ _ (Act.put _ (some 75) (.int .i64 t)) _
          simp only [Act.put, List.setIfInBounds_toArray, List.set_cons_zero, List.set_cons_succ]
          refine wpAnyH_take (i := 5) (v := .bool false) rfl (by kernel_rfl) (by kernel_rfl) (by kernel_rfl) (fun _ _ _ h => h) (Or.inl ⟨by kernel_rfl, fun w hS => by go_simp⟩) hd ?_
          change wpAnyH _ _ _ _ _ _ _ (Act.put _ (some 76) (.bool false)) _
          simp only [Act.put, List.setIfInBounds_toArray, List.set_cons_zero, List.set_cons_succ]
          refine wpAnyH_take (i := 6) (v := .bool false) rfl (by kernel_rfl) (by kernel_rfl) (by kernel_rfl) (fun _ _ _ h => h) (Or.inl ⟨by kernel_rfl, fun w _ => by kernel_rfl⟩) hd ?_
          change wpAnyH _ _ _ _ _ _ _ (Act.put _ (some 77) (.bool false)) _
          simp only [Act.put, List.setIfInBounds_toArray, List.set_cons_zero, List.set_cons_succ]
          refine wpAnyH_take (i := 7) (v := .bool false) rfl (by kernel_rfl) (by kernel_rfl) (by kernel_rfl) (fun _ _ _ h => h) (Or.inl ⟨by kernel_rfl, fun w _ => by kernel_rfl⟩) hd ?_
          change wpAnyH _ _ _ _ _ _ _ (Act.put _ (some 78) (.bool false)) _
          simp only [Act.put, List.setIfInBounds_toArray, List.set_cons_zero, List.set_cons_succ]
          refine wpAnyH_take (i := 8) (v := .slice (some ⟨g, 0, none⟩) zs.length cx) rfl (by kernel_rfl) (by kernel_rfl) (by kernel_rfl) (fun _ _ _ h => h) (Or.inl ⟨by kernel_rfl, fun w _ => by kernel_rfl⟩) hd ?_
          change wpAnyH _ _ _ _ _ _ _ (Act.put _ (some 79) (.slice (some ⟨g, 0, none⟩) zs.length cx)) _
          simp only [Act.put, List.setIfInBounds_toArray, List.set_cons_zero, List.set_cons_succ]
          refine wpAnyH_take (i := 9) (v := .int .i64 ((k : Int) + 1)) rfl (by kernel_rfl) (by kernel_rfl) (by kernel_rfl) (fun _ _ _ h => h) (Or.inl ⟨by kernel_rfl, fun w _ => by kernel_rfl⟩) hd ?_
          change wpAnyH _ _ _ _ _ _ _ (Act.put _ (some 80) (.int .i64 ((k : Int) + 1))) _
          simp only [Act.put, List.setIfInBounds_toArray, List.set_cons_zero, List.set_cons_succ]
          refine wpAnyH_take (i := 10) (v := .pointer (some ⟨g, k + 1, none⟩)) rfl (by kernel_rfl) (by kernel_rfl) (by kernel_rfl) (fun _ _ _ h => h) (Or.inl ⟨by kernel_rfl, fun w hS => by go_simp⟩) hd ?_
          change wpAnyH _ _ _ _ _ _ _ (Act.put _ (some 81) (.pointer (some ⟨g, k + 1, none⟩))) _
          simp only [Act.put, List.setIfInBounds_toArray, List.set_cons_zero, List.set_cons_succ]
          refine wpAnyH_take (i := 11) (v := .int .i64 y) rfl (by kernel_rfl) (by kernel_rfl) (by kernel_rfl) (fun _ _ _ h => h) (Or.inl ⟨by kernel_rfl, fun w hS => by have hS1 := hS.1; have hS2 := hS.2; go_simp⟩) hd ?_
          change wpAnyH _ _ _ _ _ _ _ (Act.put _ (some 82) (.int .i64 y)) _
          simp only [Act.put, List.setIfInBounds_toArray, List.set_cons_zero, List.set_cons_succ]
          refine wpAnyH_ready (rs := [12]) (by kernel_rfl) (by simp) ?_
          refine AllReadyH.cons rfl (fun K hK => ?_) AllReadyH.nil
          go_simp
          go_at_call 11
          refine (iOctadIn_calls y _ (hT.below (by first | exact hbl.out | exact below_drewN hbl.out _ | exact (below_drewN hbl.out _).drew | exact hbl.out.drew) hT.lt)).mono ?_
          rintro e w5 ⟨he, b5⟩
          rw [HIN.out] at he
          subst he
          have HO5 := Lib.hid (Own.below (by exact ho.out) b5)
          have HB5 := Lib.hid (Below.trans (by first | exact hbl.out | exact below_drewN hbl.out _ | exact (below_drewN hbl.out _).drew | exact hbl.out.drew) (b5.mono (Below.size (by first | exact hbl.out | exact below_drewN hbl.out _ | exact (below_drewN hbl.out _).drew | exact hbl.out.drew))))
          have he0 := HO5.out.cell (j := k + 1) hlt
          have he1 := HO5.out.cell (j := k) (by omega)
          rw [HY.out] at he0
          rw [HY1.out] at he1
          have hd2 := And.intro he0 he1
          clear he0 he1
          refine hK.out _ _ hd2 (fun _ => ?_)
          refine wpAnyH_take (i := 13) (v := .bool false) rfl (by kernel_rfl) (by kernel_rfl) (by kernel_rfl) (fun _ _ _ h => h) (Or.inl ⟨by kernel_rfl, fun w _ => by kernel_rfl⟩) hd2 ?_
          change wpAnyH _ _ _ _ _ _ _ (Act.put _ (some 84) (.bool false)) _
          simp only [Act.put, List.setIfInBounds_toArray, List.set_cons_zero, List.set_cons_succ]
          refine wpAnyH_take (i := 14) (v := .bool false) rfl (by kernel_rfl) (by kernel_rfl) (by kernel_rfl) (fun _ _ _ h => h) (Or.inl ⟨by kernel_rfl, fun w _ => by kernel_rfl⟩) hd2 ?_
          change wpAnyH _ _ _ _ _ _ _ (Act.put _ (some 85) (.bool false)) _
          simp only [Act.put, List.setIfInBounds_toArray, List.set_cons_zero, List.set_cons_succ]
          refine wpAnyH_take (i := 15) (v := .bool false) rfl (by kernel_rfl) (by kernel_rfl) (by kernel_rfl) (fun _ _ _ h => h) (Or.inl ⟨by kernel_rfl, fun w _ => by kernel_rfl⟩) hd2 ?_
          change wpAnyH _ _ _ _ _ _ _ (Act.put _ (some 86) (.bool false)) _
          simp only [Act.put, List.setIfInBounds_toArray, List.set_cons_zero, List.set_cons_succ]
          refine wpAnyH_take (i := 16) (v := .int .i64 ((k : Int) + 1)) rfl (by kernel_rfl) (by kernel_rfl) (by kernel_rfl) (fun _ _ _ h => h) (Or.inl ⟨by kernel_rfl, fun w _ => by kernel_rfl⟩) hd2 ?_
          change wpAnyH _ _ _ _ _ _ _ (Act.put _ (some 87) (.int .i64 ((k : Int) + 1))) _
          simp only [Act.put, List.setIfInBounds_toArray, List.set_cons_zero, List.set_cons_succ]
          refine wpAnyH_take (i := 17) (v := .bool true) rfl (by kernel_rfl) (by kernel_rfl) (by kernel_rfl) (fun _ _ _ h => h) (Or.inl ⟨by kernel_rfl, fun w hS => by go_simp⟩) hd2 ?_
          change wpAnyH _ _ _ _ _ _ _ (Act.put _ (some 88) (.bool true)) _
          simp only [Act.put, List.setIfInBounds_toArray, List.set_cons_zero, List.set_cons_succ]
          refine wpAnyH_take (i := 18) (v := .bool true) rfl (by kernel_rfl) (by kernel_rfl) (by kernel_rfl) (fun _ _ _ h => h) (Or.inl ⟨by kernel_rfl, fun w _ => by kernel_rfl⟩) hd2 ?_
          change wpAnyH _ _ _ _ _ _ _ (Act.put _ (some 89) (.bool true)) _
          simp only [Act.put, List.setIfInBounds_toArray, List.set_cons_zero, List.set_cons_succ]
          refine wpAnyH_take (i := 19) (v := .slice (some ⟨g, 0, none⟩) zs.length cx) rfl (by kernel_rfl) (by kernel_rfl) (by kernel_rfl) (fun _ _ _ h => h) (Or.inl ⟨by kernel_rfl, fun w _ => by kernel_rfl⟩) hd2 ?_
          change wpAnyH _ _ _ _ _ _ _ (Act.put _ (some 90) (.slice (some ⟨g, 0, none⟩) zs.length cx)) _
          simp only [Act.put, List.setIfInBounds_toArray, List.set_cons_zero, List.set_cons_succ]
          refine wpAnyH_take (i := 20) (v := .int .i64 ((k : Int) + 1)) rfl (by kernel_rfl) (by kernel_rfl) (by kernel_rfl) (fun _ _ _ h => h) (Or.inl ⟨by kernel_rfl, fun w _ => by kernel_rfl⟩) hd2 ?_
          change wpAnyH _ _ _ _ _ _ _ (Act.put _ (some 91) (.int .i64 ((k : Int) + 1))) _
          simp only [Act.put, List.setIfInBounds_toArray, List.set_cons_zero, List.set_cons_succ]
          refine wpAnyH_take (i := 21) (v := .pointer (some ⟨g, k + 1, none⟩)) rfl (by kernel_rfl) (by kernel_rfl) (by kernel_rfl) (fun _ _ _ h => h) (Or.inl ⟨by kernel_rfl, fun w hS => by go_simp⟩) hd2 ?_
          change wpAnyH _ _ _ _ _ _ _ (Act.put _ (some 92) (.pointer (some ⟨g, k + 1, none⟩))) _
          simp only [Act.put, List.setIfInBounds_toArray, List.set_cons_zero, List.set_cons_succ]
          refine wpAnyH_take (i := 22) (v := .int .i64 y) rfl (by kernel_rfl) (by kernel_rfl) (by kernel_rfl) (fun _ _ _ h => h) (Or.inl ⟨by kernel_rfl, fun w hS => by have hS1 := hS.1; have hS2 := hS.2; go_simp⟩) hd2 ?_
          change wpAnyH _ _ _ _ _ _ _ (Act.put _ (some 93) (.int .i64 y)) _
          simp only [Act.put, List.setIfInBounds_toArray, List.set_cons_zero, List.set_cons_succ]
          refine wpAnyH_take (i := 23) (v := .slice (some ⟨g, 0, none⟩) zs.length cx) rfl (by kernel_rfl) (by kernel_rfl) (by kernel_rfl) (fun _ _ _ h => h) (Or.inl ⟨by kernel_rfl, fun w _ => by kernel_rfl⟩) hd2 ?_
          change wpAnyH _ _ _ _ _ _ _ (Act.put _ (some 94) (.slice (some ⟨g, 0, none⟩) zs.length cx)) _
          simp only [Act.put, List.setIfInBounds_toArray, List.set_cons_zero, List.set_cons_succ]
          refine wpAnyH_take (i := 24) (v := .int .i64 ((k : Int) + 1)) rfl (by kernel_rfl) (by kernel_rfl) (by kernel_rfl) (fun _ _ _ h => h) (Or.inl ⟨by kernel_rfl, fun w _ => by kernel_rfl⟩) hd2 ?_
          change wpAnyH _ _ _ _ _ _ _ (Act.put _ (some 95) (.int .i64 ((k : Int) + 1))) _
          simp only [Act.put, List.setIfInBounds_toArray, List.set_cons_zero, List.set_cons_succ]
          refine wpAnyH_take (i := 25) (v := .int .i64 (k : Int)) rfl (by kernel_rfl) (by kernel_rfl) (by kernel_rfl) (fun _ _ _ h => h) (Or.inl ⟨by kernel_rfl, fun w hS => by go_simp⟩) hd2 ?_
          change wpAnyH _ _ _ _ _ _ _ (Act.put _ (some 96) (.int .i64 (k : Int))) _
          simp only [Act.put, List.setIfInBounds_toArray, List.set_cons_zero, List.set_cons_succ]
          refine wpAnyH_take (i := 26) (v := .pointer (some ⟨g, k, none⟩)) rfl (by kernel_rfl) (by kernel_rfl) (by kernel_rfl) (fun _ _ _ h => h) (Or.inl ⟨by kernel_rfl, fun w hS => by go_simp⟩) hd2 ?_
          change wpAnyH _ _ _ _ _ _ _ (Act.put _ (some 97) (.pointer (some ⟨g, k, none⟩))) _
          simp only [Act.put, List.setIfInBounds_toArray, List.set_cons_zero, List.set_cons_succ]
          refine wpAnyH_take (i := 27) (v := .int .i64 y1) rfl (by kernel_rfl) (by kernel_rfl) (by kernel_rfl) (fun _ _ _ h => h) (Or.inl ⟨by kernel_rfl, fun w hS => by have hS1 := hS.1; have hS2 := hS.2; go_simp⟩) hd2 ?_
          change wpAnyH _ _ _ _ _ _ _ (Act.put _ (some 98) (.int .i64 y1)) _
          simp only [Act.put, List.setIfInBounds_toArray, List.set_cons_zero, List.set_cons_succ]
          refine wpAnyH_take (i := 28) (v := .bool false) rfl (by kernel_rfl) (by kernel_rfl) (by kernel_rfl) (fun _ _ _ h => h) (Or.inl ⟨by kernel_rfl, fun w hS => by go_simp⟩) hd2 ?_
          change wpAnyH _ _ _ _ _ _ _ (Act.put _ (some 99) (.bool false)) _
          simp only [Act.put, List.setIfInBounds_toArray, List.set_cons_zero, List.set_cons_succ]
          refine wpAnyH_take (i := 29) (v := .bool false) rfl (by kernel_rfl) (by kernel_rfl) (by kernel_rfl) (fun _ _ _ h => h) (Or.inl ⟨by kernel_rfl, fun w _ => by kernel_rfl⟩) hd2 ?_
          change wpAnyH _ _ _ _ _ _ _ (Act.put _ (some 100) (.bool false)) _
          simp only [Act.put, List.setIfInBounds_toArray, List.set_cons_zero, List.set_cons_succ]
          refine wpAnyH_take (i := 30) (v := .bool false) rfl (by kernel_rfl) (by kernel_rfl) (by kernel_rfl) (fun _ _ _ h => h) (Or.inl ⟨by kernel_rfl, fun w _ => by kernel_rfl⟩) hd2 ?_
          change wpAnyH _ _ _ _ _ _ _ (Act.put _ (some 101) (.bool false)) _
          simp only [Act.put, List.setIfInBounds_toArray, List.set_cons_zero, List.set_cons_succ]
          refine wpAnyH_done (by kernel_rfl) ?_ _
          go_wp2_with fail
          go_roundw
          case rel => exact ⟨k + 1 + 1, by omega, by go_num, HO5, HB5⟩
          case measure => simp [intOf]; omega
      · obtain rfl : k = zs.length := by omega
        have HLB := Lib.hid hbl.out
        clear hbl ho HX HBZ
        generalize xs.length = n at *
        generalize zs.length = q at *
        rcases hnum with ⟨rfl, rfl⟩ | ⟨rfl, rfl⟩ | ⟨rfl, rfl⟩ | ⟨h5, hq⟩
        · go_wp2_with fail
          go_ret
          exact ⟨rfl, HLB.out⟩
        · go_wp2_with fail
          go_ret
          exact ⟨rfl, HLB.out⟩
        · go_wp2_with fail
          go_ret
          exact ⟨rfl, HLB.out⟩
        · have n3 : ((n : Int) == 3) = false := by simp; omega
          have n4 : ((n : Int) == 4) = false := by simp; omega
          have n5 : ((n : Int) == 5) = false := by simp; omega
          have n6 : (5 : Int) < (n : Int) := by omega
          have q1 : (q : Int) ≤ 1 := by omega
          go_wp2_with fail
          go_ret
          exact ⟨rfl, HLB.out⟩
end Go.Proofs.YtiinekoepoonfabDoor
