/- The walk of promise 42. -/
import Derived.Test.YtagniijhbiglaaaGreatDoorC53
import Derived.Test.YtagniijhbiglaaaGreatDoorC54
import Derived.Test.YtagniijhbiglaaaGreatDoorQ3
import Derived.Deep.RegionHeld3
namespace Go.Proofs.YtagniijhbiglaaaGreatDoor
open Go.RowKit
set_option linter.unusedVariables false
attribute [local irreducible] octS cN octF syn

theorem octA_no {xs : List Int} (h : sxB xs = false) : octA xs = ([], false) := by unfold octA; rw [h]; rfl
theorem octA_yes {xs : List Int} (h : sxB xs = true) : octA xs = (octSx xs, true) := by unfold octA; rw [h]; rfl
theorem octTo_pairs (L : List Int) : octTo L 6 = [(1, 0), (2, 0), (2, 1), (3, 0), (3, 1), (3, 2), (4, 0), (4, 1), (4, 2), (4, 3), (5, 0), (5, 1), (5, 2), (5, 3), (5, 4)].map fun (p : Nat × Nat) => xorI (L.getD p.1 0) (L.getD p.2 0) := rfl
/-- What an octad of a sextet is. -/
theorem octSx_mem {L : List Int} (x : Int) (h : x ∈ octSx L) : ∃ i j, i < 6 ∧ j < i ∧ x = xorI (L.getD i 0) (L.getD j 0) := by
  unfold octSx at h
  rw [(sortI_perm _).mem_iff, octTo_pairs] at h
  obtain ⟨p, hp, rfl⟩ := List.mem_map.1 h
  have : ∀ p ∈ [(1, 0), (2, 0), (2, 1), (3, 0), (3, 1), (3, 2), (4, 0), (4, 1), (4, 2), (4, 3), (5, 0), (5, 1), (5, 2), (5, 3), (5, 4)], (p : Nat × Nat).1 < 6 ∧ p.2 < p.1 := by decide
  exact ⟨p.1, p.2, (this p hp).1, (this p hp).2, rfl⟩
theorem octSx_oct {u : Int} (hu : Tet u) (x : Int) (h : x ∈ octSx (sxOf u)) : IsOct x := by
  obtain ⟨i, j, hi, hj, rfl⟩ := octSx_mem x h
  exact (sx_apart hu (sx_at hu i hi) (sx_at hu j (by omega)) (sx_ne hu i j hi (by omega) (by omega))).2
/-- Two sums with a place apart: the sums of two pairs of six tetrads that have nothing in common differ. -/
theorem pair_bits {u : Int} (hu : Tet u) (i j k l : Nat) (hi : i < 6) (hj : j < i) (hk : k < 6) (hl : l < k) (h : xorI ((sxOf u).getD i 0) ((sxOf u).getD j 0) = xorI ((sxOf u).getD k 0) ((sxOf u).getD l 0)) : i = k ∧ j = l := by
  have key : ∀ a b, a < 6 → b < 6 → andI ((sxOf u).getD a 0) ((sxOf u).getD b 0) = if a = b then (sxOf u).getD a 0 else 0 := fun a b ha hb => by
    split
    · rename_i e
      subst e
      have := (sxOf_same hu (sx_at hu a ha)).1
      obtain ⟨t, et, _, _⟩ := this.nat
      rw [et, andI_nat, Nat.and_self]
    · rename_i e
      exact (sx_apart hu (sx_at hu a ha) (sx_at hu b hb) (sx_ne hu a b ha hb e)).1
  have dist : ∀ a b c, a < 6 → b < 6 → c < 6 → andI (xorI ((sxOf u).getD a 0) ((sxOf u).getD b 0)) ((sxOf u).getD c 0) = xorI (andI ((sxOf u).getD a 0) ((sxOf u).getD c 0)) (andI ((sxOf u).getD b 0) ((sxOf u).getD c 0)) := fun a b c ha hb hc => by
    obtain ⟨A, ea, _, _⟩ := (sxOf_same hu (sx_at hu a ha)).1.nat
    obtain ⟨B, eb, _, _⟩ := (sxOf_same hu (sx_at hu b hb)).1.nat
    obtain ⟨C, ec, _, _⟩ := (sxOf_same hu (sx_at hu c hc)).1.nat
    rw [ea, eb, ec, xorI_nat, andI_nat, andI_nat, andI_nat, xorI_nat, Nat.and_xor_distrib_right]
  have pos : ∀ a, a < 6 → (sxOf u).getD a 0 ≠ 0 := fun a ha e => by
    have := (sxOf_same hu (sx_at hu a ha)).1.2.2
    rw [e] at this
    have h0 : wt 0 = 0 := by decide
    omega
  have x0 : ∀ a, a < 6 → xorI ((sxOf u).getD a 0) 0 = (sxOf u).getD a 0 := fun a ha => by
    obtain ⟨A, ea, _, _⟩ := (sxOf_same hu (sx_at hu a ha)).1.nat
    rw [ea]; simp [xorI]
  have x1 : ∀ a, a < 6 → xorI 0 ((sxOf u).getD a 0) = (sxOf u).getD a 0 := fun a ha => by
    obtain ⟨A, ea, _, _⟩ := (sxOf_same hu (sx_at hu a ha)).1.nat
    rw [ea]; simp [xorI]
  have x2 : xorI 0 0 = 0 := rfl
  have hc := fun c (hc : c < 6) => (dist i j c hi (by omega) hc).symm.trans ((congrArg (fun z => andI z ((sxOf u).getD c 0)) h).trans (dist k l c hk (by omega) hc))
  have h1 := hc i hi
  rw [key i i hi hi, key j i (by omega) hi, key k i hk hi, key l i (by omega) hi, if_pos rfl, if_neg (by omega : ¬ j = i)] at h1
  have h2 := hc j (by omega)
  rw [key i j hi (by omega), key j j (by omega) (by omega), key k j hk (by omega), key l j (by omega) (by omega), if_neg (by omega : ¬ i = j), if_pos rfl] at h2
  rw [x0 i hi] at h1
  rw [x1 j (by omega)] at h2
  by_cases e1 : k = i
  · subst e1
    refine ⟨rfl, ?_⟩
    by_cases e2 : l = j
    · exact e2.symm
    · rw [if_neg (by omega : ¬ k = j), if_neg e2, x2] at h2
      exact absurd h2 (pos j (by omega))
  · by_cases e3 : l = i
    · rw [if_neg (by omega : ¬ k = j), if_neg (by omega : ¬ l = j), x2] at h2
      exact absurd h2 (pos j (by omega))
    · rw [if_neg e1, if_neg e3, x2] at h1
      exact absurd h1 (pos i hi)
theorem octSx_asc {u : Int} (hu : Tet u) : Asc (octSx (sxOf u)) := by
  have hn : (octTo (sxOf u) 6).Nodup := by
    rw [octTo_pairs]
    have hP : ∀ p ∈ [(1, 0), (2, 0), (2, 1), (3, 0), (3, 1), (3, 2), (4, 0), (4, 1), (4, 2), (4, 3), (5, 0), (5, 1), (5, 2), (5, 3), (5, 4)], (p : Nat × Nat).1 < 6 ∧ p.2 < p.1 := by decide
    have hN : ([(1, 0), (2, 0), (2, 1), (3, 0), (3, 1), (3, 2), (4, 0), (4, 1), (4, 2), (4, 3), (5, 0), (5, 1), (5, 2), (5, 3), (5, 4)] : List (Nat × Nat)).Nodup := by decide
    generalize ([(1, 0), (2, 0), (2, 1), (3, 0), (3, 1), (3, 2), (4, 0), (4, 1), (4, 2), (4, 3), (5, 0), (5, 1), (5, 2), (5, 3), (5, 4)] : List (Nat × Nat)) = P at *
    induction P with
    | nil => simp
    | cons p P ih =>
      obtain ⟨h1, h2⟩ := List.nodup_cons.1 hN
      rw [List.map_cons, List.nodup_cons]
      refine ⟨fun hm => ?_, ih (fun q hq => hP q (List.mem_cons_of_mem _ hq)) h2⟩
      obtain ⟨q, hq, e⟩ := List.mem_map.1 hm
      have a := hP p (List.mem_cons_self ..)
      have b := hP q (List.mem_cons_of_mem _ hq)
      obtain ⟨e1, e2⟩ := pair_bits hu q.1 q.2 p.1 p.2 b.1 b.2 a.1 a.2 e
      have : q = p := Prod.ext e1 e2
      exact h1 (this ▸ hq)
  have hn2 : (octSx (sxOf u)).Nodup := (sortI_perm _).nodup_iff.2 hn
  unfold Asc
  exact ((sortI_pair _).and hn2).imp fun {a b} h => by have := h.1; have := h.2; omega
theorem oct_in' {x : Int} (h : IsOct x) : oIn x = true := by
  have hr := h.rng
  obtain ⟨m, hm, e, h8⟩ := h
  rw [oIn_of hr, h8, (codeIn_iff x hr.1 hr.2).2 ⟨m, hm, e⟩]
  rfl
theorem holds_at {xs : List Int} (h : sxB xs = true) (k : Nat) (hk : k < 15) : holdsB xs ((octSx xs).getD k 0) = true := by
  unfold holdsB
  rw [h, contains_at k (by rw [octSx_len]; exact hk) rfl]
  rfl
set_option maxRecDepth 100000 in
set_option maxHeartbeats 2000000 in
theorem walk_FnSextetOctads (a0 : Option Addr) (len0 cap0 : Nat) (z0 : List Int) (w : World) (w0 : IsRow .u8 w a0 len0 cap0 z0) (hT : Tab3 w) :
    Calls Tryz.prog 3 #[.slice a0 len0 cap0] w fun e w' => e = .returned (.bool true) ∧ Below w.heap.size w w' := by
  obtain ⟨bs, rfl, hr, hc, hm, hv⟩ := w0.bytes
  have hm' := hm
  unfold maxLen at hm'
  by_cases hbig : 1048576 < bs.length
  · go_enter Tryz.func3, Tryz.ntmps3
    go_wp2_with fail
    go_ret
    exact ⟨rfl, Below.refl _ _⟩
  have hbig' : bs.length ≤ 1048576 := by omega
  clear hbig
  go_enter Tryz.func3, Tryz.ntmps3
  go_wp2_with fail
  refine (DrawSextetOctads_calls _ _ bs _ hr hc hm hv).mono ?_
  rintro e w1 ⟨v, xs, rfl, o1, hl6, b1⟩
  obtain ⟨Az, cz, rfl⟩ := o1.slice
  have B0 := Lib.hid (b1)
  have Oz0 := Lib.hid (o1)
  rcases hb : sxB xs with _ | _
  · have H := Lib.hid (octA_no hb)
    clear hb hl6
    go_wp2_with fail
    refine (iSextetOctads_calls _ _ xs _ (Oz0.out).rds (Oz0.out).len_le (hT.below (B0.out) hT.lt).2).mono ?_
    rintro e w1_ ⟨v1_, he, o1_, b1_⟩
    rw [H.out] at he o1_
    dsimp only at he o1_
    subst he
    obtain ⟨Ax, cx, rfl⟩ := o1_.slice
    have B1 := Lib.hid ((B0.out).trans (b1_.mono (B0.out).size))
    have Oz1 := Lib.hid ((Oz0.out).below b1_)
    have Ox1 := Lib.hid (o1_.weak (B0.out).size)
    go_wp2_with fail
    refine (sSextetOctads_calls _ _ xs _ (Oz1.out).rds (Oz1.out).len_le).mono ?_
    rintro e w2_ ⟨v2_, he, o2_, b2_⟩
    rw [H.out] at he o2_
    dsimp only at he o2_
    subst he
    obtain ⟨Ay, cy, rfl⟩ := o2_.slice
    have B2 := Lib.hid ((B1.out).trans (b2_.mono (B1.out).size))
    have Oz2 := Lib.hid ((Oz1.out).below b2_)
    have Ox2 := Lib.hid ((Ox1.out).below b2_)
    have Oy2 := Lib.hid (o2_.weak (B1.out).size)
    go_wp2_with fail
    refine (sameInts_calls _ _ _ _ [] [] _ (Ox2.out).rds (Oy2.out).rds (Ox2.out).len_le (Oy2.out).len_le).mono ?_
    rintro e w' ⟨he, k3_, rfl⟩
    rw [eqL_refl] at he
    subst he
    have B3 := Lib.hid (below_drewN (B2.out) k3_)
    have Oz3 := Lib.hid ((Oz2.out).drewN k3_)
    have Ox3 := Lib.hid ((Ox2.out).drewN k3_)
    have Oy3 := Lib.hid ((Oy2.out).drewN k3_)
    go_wp2_with fail
    refine (sameInts_calls _ _ _ _ [] [] _ (Ox3.out).rds (Oy3.out).rds (Ox3.out).len_le (Oy3.out).len_le).mono ?_
    rintro e w' ⟨he, k4_, rfl⟩
    rw [eqL_refl] at he
    subst he
    have B4 := Lib.hid (below_drewN (B3.out) k4_)
    have Oz4 := Lib.hid ((Oz3.out).drewN k4_)
    have Ox4 := Lib.hid ((Ox3.out).drewN k4_)
    have Oy4 := Lib.hid ((Oy3.out).drewN k4_)
    go_wp2_with fail
    go_ret
    first | exact ⟨rfl, B4.out⟩ | exact ⟨rfl, by have hB := B4.out; simp only [World.drewN_drewN] at hB; exact hB⟩
  · have H := Lib.hid (octA_yes hb)
    have HL := Lib.hid (octSx_len xs)
    have HH := Lib.hid (fun k hk => holds_at hb k hk)
    obtain ⟨u, hu, hxu⟩ := (sxB_iff xs).1 hb
    have HAT := Lib.hid (fun j (hj : j < (octSx xs).length) => octSx_oct hu ((octSx xs).getD j 0) (by rw [← hxu, ← getD_at (octSx xs) j hj]; exact List.getElem_mem _))
    have HASC := Lib.hid (fun i j (hij : i < j) (hj : j < (octSx xs).length) => asc_get (by rw [hxu]; exact octSx_asc hu : Asc (octSx xs)) hij hj)
    clear hb hu hxu hl6
    generalize octSx xs = zs at *
    go_wp2_with fail
    refine (iSextetOctads_calls _ _ xs _ (Oz0.out).rds (Oz0.out).len_le (hT.below (B0.out) hT.lt).2).mono ?_
    rintro e w1_ ⟨v1_, he, o1_, b1_⟩
    rw [H.out] at he o1_
    dsimp only at he o1_
    subst he
    obtain ⟨Ax, cx, rfl⟩ := o1_.slice
    have B1 := Lib.hid ((B0.out).trans (b1_.mono (B0.out).size))
    have Oz1 := Lib.hid ((Oz0.out).below b1_)
    have Ox1 := Lib.hid (o1_.weak (B0.out).size)
    go_wp2_with fail
    refine (sSextetOctads_calls _ _ xs _ (Oz1.out).rds (Oz1.out).len_le).mono ?_
    rintro e w2_ ⟨v2_, he, o2_, b2_⟩
    rw [H.out] at he o2_
    dsimp only at he o2_
    subst he
    obtain ⟨Ay, cy, rfl⟩ := o2_.slice
    have B2 := Lib.hid ((B1.out).trans (b2_.mono (B1.out).size))
    have Oz2 := Lib.hid ((Oz1.out).below b2_)
    have Ox2 := Lib.hid ((Ox1.out).below b2_)
    have Oy2 := Lib.hid (o2_.weak (B1.out).size)
    go_wp2_with fail
    refine (sameInts_calls _ _ _ _ zs zs _ (Ox2.out).rds (Oy2.out).rds (Ox2.out).len_le (Oy2.out).len_le).mono ?_
    rintro e w' ⟨he, k3_, rfl⟩
    rw [eqL_refl] at he
    subst he
    have B3 := Lib.hid (below_drewN (B2.out) k3_)
    have Oz3 := Lib.hid ((Oz2.out).drewN k3_)
    have Ox3 := Lib.hid ((Ox2.out).drewN k3_)
    have Oy3 := Lib.hid ((Oy2.out).drewN k3_)
    have HX := Lib.hid (Ox3.out)
    have HZ := Lib.hid (Oz3.out)
    have HBZ := Lib.hid (B3.out)
    have hl15 : ((zs.length : Nat) : Int) = 15 := by rw [HL.out]; rfl
    go_wp2_with fail
    go_loopw [8] (fun i wr => ∃ k : Nat, k ≤ 15 ∧ i = .int .i64 k ∧ Hid (Own wr w.heap.size (.slice Ax zs.length cx) zs) ∧ Hid (Own wr w.heap.size (.slice Az xs.length cz) xs) ∧ Hid (Below w.heap.size w wr)) (fun i _ => 15 - (intOf i).toNat)
    case atStart => exact ⟨0, by omega, rfl, HX, HZ, HBZ⟩
    case round =>
      obtain ⟨k, hk, rfl, ho, hz, hbl⟩ := hrel
      by_cases hlt15 : k < 15
      · have hlt : k < zs.length := by rw [HL.out]; exact hlt15
        obtain ⟨g, rfl, _, _⟩ := own_at ho.out (by omega)
        have hc0 := ho.out.cell (j := k) hlt
        have HIN := Lib.hid (oct_in' (HAT.out k hlt))
        rcases k with _ | k
        · obtain ⟨y, hy⟩ : ∃ y, zs.getD 0 0 = y := ⟨_, rfl⟩
          rw [hy] at hc0 HIN
          have HY := Lib.hid hy
          clear hy
          go_wp2_with fail
          refine wp_region_held_drew (S := fun w' => w'.cell? ⟨g, 0, none⟩ = some (.int .i64 y)) (by kernel_rfl) hc0 (fun hd => ?_)
          refine wpAnyH_take (i := 0) (v := .slice (some ⟨g, 0, none⟩) zs.length cx) rfl (by kernel_rfl) (by kernel_rfl) (by kernel_rfl) (fun _ _ _ h => h) (Or.inl ⟨by kernel_rfl, fun w _ => by kernel_rfl⟩) hd ?_
          change wpAnyH _ _ _ _ _ _ _ (Act.put _ (some 51) (.slice (some ⟨g, 0, none⟩) zs.length cx)) _
          simp only [Act.put, List.setIfInBounds_toArray, List.set_cons_zero, List.set_cons_succ]
          refine wpAnyH_take (i := 1) (v := .int .i64 0) rfl (by kernel_rfl) (by kernel_rfl) (by kernel_rfl) (fun _ _ _ h => h) (Or.inl ⟨by kernel_rfl, fun w _ => by kernel_rfl⟩) hd ?_
          change wpAnyH _ _ _ _ _ _ _ (Act.put _ (some 52) (.int .i64 0)) _
          simp only [Act.put, List.setIfInBounds_toArray, List.set_cons_zero, List.set_cons_succ]
          refine wpAnyH_take (i := 2) (v := .pointer (some ⟨g, 0, none⟩)) rfl (by kernel_rfl) (by kernel_rfl) (by kernel_rfl) (fun _ _ _ h => h) (Or.inl ⟨by kernel_rfl, fun w hS => by go_simp⟩) hd ?_
          change wpAnyH _ _ _ _ _ _ _ (Act.put _ (some 53) (.pointer (some ⟨g, 0, none⟩))) _
          simp only [Act.put, List.setIfInBounds_toArray, List.set_cons_zero, List.set_cons_succ]
          refine wpAnyH_take (i := 3) (v := .int .i64 y) rfl (by kernel_rfl) (by kernel_rfl) (by kernel_rfl) (fun _ _ _ h => h) (Or.inl ⟨by kernel_rfl, fun w hS => by go_simp⟩) hd ?_
          change wpAnyH _ _ _ _ _ _ _ (Act.put _ (some 54) (.int .i64 y)) _
          simp only [Act.put, List.setIfInBounds_toArray, List.set_cons_zero, List.set_cons_succ]
          refine wpAnyH_ready (rs := [4]) (by kernel_rfl) (by simp) ?_
          refine AllReadyH.cons rfl (fun K hK => ?_) AllReadyH.nil
          go_simp
          go_at_call 9
          refine (iOctadIn_calls y _ (hT.below (by first | exact hbl.out | exact below_drewN hbl.out _ | exact (below_drewN hbl.out _).drew | exact hbl.out.drew) hT.lt)).mono ?_
          rintro e w5 ⟨he, b5⟩
          rw [HIN.out] at he
          subst he
          have HO5 := Lib.hid (Own.below (by exact ho.out) b5)
          have HZ5 := Lib.hid (Own.below (by exact hz.out) b5)
          have HB5 := Lib.hid (Below.trans (by first | exact hbl.out | exact below_drewN hbl.out _ | exact (below_drewN hbl.out _).drew | exact hbl.out.drew) (b5.mono (Below.size (by first | exact hbl.out | exact below_drewN hbl.out _ | exact (below_drewN hbl.out _).drew | exact hbl.out.drew))))
          have hd2 := HO5.out.cell (j := 0) hlt
          rw [HY.out] at hd2
          refine hK.out _ _ hd2 (fun _ => ?_)
          refine wpAnyH_take (i := 5) (v := .bool false) rfl (by kernel_rfl) (by kernel_rfl) (by kernel_rfl) (fun _ _ _ h => h) (Or.inl ⟨by kernel_rfl, fun w _ => by kernel_rfl⟩) hd2 ?_
          change wpAnyH _ _ _ _ _ _ _ (Act.put _ (some 56) (.bool false)) _
          simp only [Act.put, List.setIfInBounds_toArray, List.set_cons_zero, List.set_cons_succ]
          refine wpAnyH_take (i := 6) (v := .bool false) rfl (by kernel_rfl) (by kernel_rfl) (by kernel_rfl) (fun _ _ _ h => h) (Or.inl ⟨by kernel_rfl, fun w _ => by kernel_rfl⟩) hd2 ?_
          change wpAnyH _ _ _ _ _ _ _ (Act.put _ (some 57) (.bool false)) _
          simp only [Act.put, List.setIfInBounds_toArray, List.set_cons_zero, List.set_cons_succ]
          refine wpAnyH_take (i := 7) (v := .int .i64 0) rfl (by kernel_rfl) (by kernel_rfl) (by kernel_rfl) (fun _ _ _ h => h) (Or.inl ⟨by kernel_rfl, fun w _ => by kernel_rfl⟩) hd2 ?_
          change wpAnyH _ _ _ _ _ _ _ (Act.put _ (some 58) (.int .i64 0)) _
          simp only [Act.put, List.setIfInBounds_toArray, List.set_cons_zero, List.set_cons_succ]
          refine wpAnyH_take (i := 8) (v := .bool false) rfl (by kernel_rfl) (by kernel_rfl) (by kernel_rfl) (fun _ _ _ h => h) (Or.inl ⟨by kernel_rfl, fun w hS => by go_simp⟩) hd2 ?_
          change wpAnyH _ _ _ _ _ _ _ (Act.put _ (some 59) (.bool false)) _
          simp only [Act.put, List.setIfInBounds_toArray, List.set_cons_zero, List.set_cons_succ]
          refine wpAnyH_take (i := 9) (v := .bool false) rfl (by kernel_rfl) (by kernel_rfl) (by kernel_rfl) (fun _ _ _ h => h) (Or.inl ⟨by kernel_rfl, fun w _ => by kernel_rfl⟩) hd2 ?_
          change wpAnyH _ _ _ _ _ _ _ (Act.put _ (some 60) (.bool false)) _
          simp only [Act.put, List.setIfInBounds_toArray, List.set_cons_zero, List.set_cons_succ]
          refine wpAnyH_take (i := 10) (v := undef) rfl (by kernel_rfl) (by kernel_rfl) (by kernel_rfl) (fun _ _ _ h => h) (Or.inr ⟨by kernel_rfl, rfl⟩) hd2 ?_
          change wpAnyH _ _ _ _ _ _ _ (Act.put _ (some 61) (undef)) _
          simp only [Act.put, List.setIfInBounds_toArray, List.set_cons_zero, List.set_cons_succ]
          refine wpAnyH_take (i := 11) (v := undef) rfl (by kernel_rfl) (by kernel_rfl) (by kernel_rfl) (fun _ _ _ h => h) (Or.inr ⟨by kernel_rfl, rfl⟩) hd2 ?_
          change wpAnyH _ _ _ _ _ _ _ (Act.put _ (some 62) (undef)) _
          simp only [Act.put, List.setIfInBounds_toArray, List.set_cons_zero, List.set_cons_succ]
          refine wpAnyH_take (i := 12) (v := undef) rfl (by kernel_rfl) (by kernel_rfl) (by kernel_rfl) (fun _ _ _ h => h) (Or.inr ⟨by kernel_rfl, rfl⟩) hd2 ?_
          change wpAnyH _ _ _ _ _ _ _ (Act.put _ (some 63) (undef)) _
          simp only [Act.put, List.setIfInBounds_toArray, List.set_cons_zero, List.set_cons_succ]
          refine wpAnyH_take (i := 13) (v := undef) rfl (by kernel_rfl) (by kernel_rfl) (by kernel_rfl) (fun _ _ _ h => h) (Or.inr ⟨by kernel_rfl, rfl⟩) hd2 ?_
          change wpAnyH _ _ _ _ _ _ _ (Act.put _ (some 64) (undef)) _
          simp only [Act.put, List.setIfInBounds_toArray, List.set_cons_zero, List.set_cons_succ]
          refine wpAnyH_take (i := 14) (v := undef) rfl (by kernel_rfl) (by kernel_rfl) (by kernel_rfl) (fun _ _ _ h => h) (Or.inr ⟨by kernel_rfl, rfl⟩) hd2 ?_
          change wpAnyH _ _ _ _ _ _ _ (Act.put _ (some 65) (undef)) _
          simp only [Act.put, List.setIfInBounds_toArray, List.set_cons_zero, List.set_cons_succ]
          refine wpAnyH_take (i := 15) (v := undef) rfl (by kernel_rfl) (by kernel_rfl) (by kernel_rfl) (fun _ _ _ h => h) (Or.inr ⟨by kernel_rfl, rfl⟩) hd2 ?_
          change wpAnyH _ _ _ _ _ _ _ (Act.put _ (some 66) (undef)) _
          simp only [Act.put, List.setIfInBounds_toArray, List.set_cons_zero, List.set_cons_succ]
          refine wpAnyH_take (i := 16) (v := undef) rfl (by kernel_rfl) (by kernel_rfl) (by kernel_rfl) (fun _ _ _ h => h) (Or.inr ⟨by kernel_rfl, rfl⟩) hd2 ?_
          change wpAnyH _ _ _ _ _ _ _ (Act.put _ (some 67) (undef)) _
          simp only [Act.put, List.setIfInBounds_toArray, List.set_cons_zero, List.set_cons_succ]
          refine wpAnyH_take (i := 17) (v := undef) rfl (by kernel_rfl) (by kernel_rfl) (by kernel_rfl) (fun _ _ _ h => h) (Or.inr ⟨by kernel_rfl, rfl⟩) hd2 ?_
          change wpAnyH _ _ _ _ _ _ _ (Act.put _ (some 68) (undef)) _
          simp only [Act.put, List.setIfInBounds_toArray, List.set_cons_zero, List.set_cons_succ]
          refine wpAnyH_take (i := 18) (v := undef) rfl (by kernel_rfl) (by kernel_rfl) (by kernel_rfl) (fun _ _ _ h => h) (Or.inr ⟨by kernel_rfl, rfl⟩) hd2 ?_
          change wpAnyH _ _ _ _ _ _ _ (Act.put _ (some 69) (undef)) _
          simp only [Act.put, List.setIfInBounds_toArray, List.set_cons_zero, List.set_cons_succ]
          refine wpAnyH_take (i := 19) (v := undef) rfl (by kernel_rfl) (by kernel_rfl) (by kernel_rfl) (fun _ _ _ h => h) (Or.inr ⟨by kernel_rfl, rfl⟩) hd2 ?_
          change wpAnyH _ _ _ _ _ _ _ (Act.put _ (some 70) (undef)) _
          simp only [Act.put, List.setIfInBounds_toArray, List.set_cons_zero, List.set_cons_succ]
          refine wpAnyH_take (i := 20) (v := .bool false) rfl (by kernel_rfl) (by kernel_rfl) (by kernel_rfl) (fun _ _ _ h => h) (Or.inl ⟨by kernel_rfl, fun w _ => by kernel_rfl⟩) hd2 ?_
          change wpAnyH _ _ _ _ _ _ _ (Act.put _ (some 71) (.bool false)) _
          simp only [Act.put, List.setIfInBounds_toArray, List.set_cons_zero, List.set_cons_succ]
          refine wpAnyH_take (i := 21) (v := .bool false) rfl (by kernel_rfl) (by kernel_rfl) (by kernel_rfl) (fun _ _ _ h => h) (Or.inl ⟨by kernel_rfl, fun w _ => by kernel_rfl⟩) hd2 ?_
          change wpAnyH _ _ _ _ _ _ _ (Act.put _ (some 72) (.bool false)) _
          simp only [Act.put, List.setIfInBounds_toArray, List.set_cons_zero, List.set_cons_succ]
          refine wpAnyH_done (by kernel_rfl) ?_ _
          go_wp2_with fail
          go_roundw
          case rel => exact ⟨1, by omega, rfl, HO5, HZ5, HB5⟩
          case measure =>
            show 15 - 1 < 15 - 0
            omega
        · have hkp : (0 : Int) < (k : Int) + 1 := by omega
          have hk0 : (0 : Int) ≤ (k : Int) := by omega
          have hk1 : (k : Int) < 15 := by omega
          have hk2 : (k : Int) + 1 < 15 := by omega
          have hk3 : (0 : Int) ≤ (k : Int) + 1 := by omega
          have hk4 : (k : Int) < (zs.length : Int) := by omega
          have hk5 : (k : Int) + 1 < (zs.length : Int) := by omega
          have hwk : IntKind.i64.wrap (k : Int) = (k : Int) := by rw [IntKind.wrap_i64]; omega
          have hwk1 : IntKind.i64.wrap ((k : Int) + 1 - 1) = (k : Int) := by rw [IntKind.wrap_i64]; omega
          have hlt2 : zs.getD k 0 < zs.getD (k + 1) 0 := HASC.out k (k + 1) (by omega) hlt
          have hc1 := ho.out.cell (j := k) (by omega)
          obtain ⟨y, hy⟩ : ∃ y, zs.getD (k + 1) 0 = y := ⟨_, rfl⟩
          obtain ⟨y1, hy1⟩ : ∃ y1, zs.getD k 0 = y1 := ⟨_, rfl⟩
          rw [hy] at hc0 HIN hlt2
          rw [hy1] at hc1 hlt2
          have HY := Lib.hid hy
          have HY1 := Lib.hid hy1
          clear hy hy1
          go_wp2_with fail
          have hnle : ¬ y ≤ y1 := by omega
          refine wp_region_held_drew (S := fun w' => w'.cell? ⟨g, k + 1, none⟩ = some (.int .i64 y) ∧ w'.cell? ⟨g, k, none⟩ = some (.int .i64 y1)) (by kernel_rfl) ⟨hc0, hc1⟩ (fun hd => ?_)
          refine wpAnyH_take (i := 0) (v := .slice (some ⟨g, 0, none⟩) zs.length cx) rfl (by kernel_rfl) (by kernel_rfl) (by kernel_rfl) (fun _ _ _ h => h) (Or.inl ⟨by kernel_rfl, fun w _ => by kernel_rfl⟩) hd ?_
          change wpAnyH _ _ _ _ _ _ _ (Act.put _ (some 51) (.slice (some ⟨g, 0, none⟩) zs.length cx)) _
          simp only [Act.put, List.setIfInBounds_toArray, List.set_cons_zero, List.set_cons_succ]
          refine wpAnyH_take (i := 1) (v := .int .i64 ((k : Int) + 1)) rfl (by kernel_rfl) (by kernel_rfl) (by kernel_rfl) (fun _ _ _ h => h) (Or.inl ⟨by kernel_rfl, fun w _ => by kernel_rfl⟩) hd ?_
          change wpAnyH _ _ _ _ _ _ _ (Act.put _ (some 52) (.int .i64 ((k : Int) + 1))) _
          simp only [Act.put, List.setIfInBounds_toArray, List.set_cons_zero, List.set_cons_succ]
          refine wpAnyH_take (i := 2) (v := .pointer (some ⟨g, k + 1, none⟩)) rfl (by kernel_rfl) (by kernel_rfl) (by kernel_rfl) (fun _ _ _ h => h) (Or.inl ⟨by kernel_rfl, fun w hS => by go_simp⟩) hd ?_
          change wpAnyH _ _ _ _ _ _ _ (Act.put _ (some 53) (.pointer (some ⟨g, k + 1, none⟩))) _
          simp only [Act.put, List.setIfInBounds_toArray, List.set_cons_zero, List.set_cons_succ]
          refine wpAnyH_take (i := 3) (v := .int .i64 y) rfl (by kernel_rfl) (by kernel_rfl) (by kernel_rfl) (fun _ _ _ h => h) (Or.inl ⟨by kernel_rfl, fun w hS => by have hS1 := hS.1; have hS2 := hS.2; go_simp⟩) hd ?_
          change wpAnyH _ _ _ _ _ _ _ (Act.put _ (some 54) (.int .i64 y)) _
          simp only [Act.put, List.setIfInBounds_toArray, List.set_cons_zero, List.set_cons_succ]
          refine wpAnyH_ready (rs := [4]) (by kernel_rfl) (by simp) ?_
          refine AllReadyH.cons rfl (fun K hK => ?_) AllReadyH.nil
          go_simp
          go_at_call 9
          refine (iOctadIn_calls y _ (hT.below (by first | exact hbl.out | exact below_drewN hbl.out _ | exact (below_drewN hbl.out _).drew | exact hbl.out.drew) hT.lt)).mono ?_
          rintro e w5 ⟨he, b5⟩
          rw [HIN.out] at he
          subst he
          have HO5 := Lib.hid (Own.below (by exact ho.out) b5)
          have HZ5 := Lib.hid (Own.below (by exact hz.out) b5)
          have HB5 := Lib.hid (Below.trans (by first | exact hbl.out | exact below_drewN hbl.out _ | exact (below_drewN hbl.out _).drew | exact hbl.out.drew) (b5.mono (Below.size (by first | exact hbl.out | exact below_drewN hbl.out _ | exact (below_drewN hbl.out _).drew | exact hbl.out.drew))))
          have he0 := HO5.out.cell (j := k + 1) hlt
          have he1 := HO5.out.cell (j := k) (by omega)
          rw [HY.out] at he0
          rw [HY1.out] at he1
          have hd2 := And.intro he0 he1
          clear he0 he1
          refine hK.out _ _ hd2 (fun _ => ?_)
          refine wpAnyH_take (i := 5) (v := .bool false) rfl (by kernel_rfl) (by kernel_rfl) (by kernel_rfl) (fun _ _ _ h => h) (Or.inl ⟨by kernel_rfl, fun w _ => by kernel_rfl⟩) hd2 ?_
          change wpAnyH _ _ _ _ _ _ _ (Act.put _ (some 56) (.bool false)) _
          simp only [Act.put, List.setIfInBounds_toArray, List.set_cons_zero, List.set_cons_succ]
          refine wpAnyH_take (i := 6) (v := .bool false) rfl (by kernel_rfl) (by kernel_rfl) (by kernel_rfl) (fun _ _ _ h => h) (Or.inl ⟨by kernel_rfl, fun w _ => by kernel_rfl⟩) hd2 ?_
          change wpAnyH _ _ _ _ _ _ _ (Act.put _ (some 57) (.bool false)) _
          simp only [Act.put, List.setIfInBounds_toArray, List.set_cons_zero, List.set_cons_succ]
          refine wpAnyH_take (i := 7) (v := .int .i64 ((k : Int) + 1)) rfl (by kernel_rfl) (by kernel_rfl) (by kernel_rfl) (fun _ _ _ h => h) (Or.inl ⟨by kernel_rfl, fun w _ => by kernel_rfl⟩) hd2 ?_
          change wpAnyH _ _ _ _ _ _ _ (Act.put _ (some 58) (.int .i64 ((k : Int) + 1))) _
          simp only [Act.put, List.setIfInBounds_toArray, List.set_cons_zero, List.set_cons_succ]
          refine wpAnyH_take (i := 8) (v := .bool true) rfl (by kernel_rfl) (by kernel_rfl) (by kernel_rfl) (fun _ _ _ h => h) (Or.inl ⟨by kernel_rfl, fun w hS => by go_simp⟩) hd2 ?_
          change wpAnyH _ _ _ _ _ _ _ (Act.put _ (some 59) (.bool true)) _
          simp only [Act.put, List.setIfInBounds_toArray, List.set_cons_zero, List.set_cons_succ]
          refine wpAnyH_take (i := 9) (v := .bool true) rfl (by kernel_rfl) (by kernel_rfl) (by kernel_rfl) (fun _ _ _ h => h) (Or.inl ⟨by kernel_rfl, fun w _ => by kernel_rfl⟩) hd2 ?_
          change wpAnyH _ _ _ _ _ _ _ (Act.put _ (some 60) (.bool true)) _
          simp only [Act.put, List.setIfInBounds_toArray, List.set_cons_zero, List.set_cons_succ]
          refine wpAnyH_take (i := 10) (v := .slice (some ⟨g, 0, none⟩) zs.length cx) rfl (by kernel_rfl) (by kernel_rfl) (by kernel_rfl) (fun _ _ _ h => h) (Or.inl ⟨by kernel_rfl, fun w _ => by kernel_rfl⟩) hd2 ?_
          change wpAnyH _ _ _ _ _ _ _ (Act.put _ (some 61) (.slice (some ⟨g, 0, none⟩) zs.length cx)) _
          simp only [Act.put, List.setIfInBounds_toArray, List.set_cons_zero, List.set_cons_succ]
          refine wpAnyH_take (i := 11) (v := .int .i64 ((k : Int) + 1)) rfl (by kernel_rfl) (by kernel_rfl) (by kernel_rfl) (fun _ _ _ h => h) (Or.inl ⟨by kernel_rfl, fun w _ => by kernel_rfl⟩) hd2 ?_
          change wpAnyH _ _ _ _ _ _ _ (Act.put _ (some 62) (.int .i64 ((k : Int) + 1))) _
          simp only [Act.put, List.setIfInBounds_toArray, List.set_cons_zero, List.set_cons_succ]
          refine wpAnyH_take (i := 12) (v := .pointer (some ⟨g, k + 1, none⟩)) rfl (by kernel_rfl) (by kernel_rfl) (by kernel_rfl) (fun _ _ _ h => h) (Or.inl ⟨by kernel_rfl, fun w hS => by go_simp⟩) hd2 ?_
          change wpAnyH _ _ _ _ _ _ _ (Act.put _ (some 63) (.pointer (some ⟨g, k + 1, none⟩))) _
          simp only [Act.put, List.setIfInBounds_toArray, List.set_cons_zero, List.set_cons_succ]
          refine wpAnyH_take (i := 13) (v := .int .i64 y) rfl (by kernel_rfl) (by kernel_rfl) (by kernel_rfl) (fun _ _ _ h => h) (Or.inl ⟨by kernel_rfl, fun w hS => by have hS1 := hS.1; have hS2 := hS.2; go_simp⟩) hd2 ?_
          change wpAnyH _ _ _ _ _ _ _ (Act.put _ (some 64) (.int .i64 y)) _
          simp only [Act.put, List.setIfInBounds_toArray, List.set_cons_zero, List.set_cons_succ]
          refine wpAnyH_take (i := 14) (v := .slice (some ⟨g, 0, none⟩) zs.length cx) rfl (by kernel_rfl) (by kernel_rfl) (by kernel_rfl) (fun _ _ _ h => h) (Or.inl ⟨by kernel_rfl, fun w _ => by kernel_rfl⟩) hd2 ?_
          change wpAnyH _ _ _ _ _ _ _ (Act.put _ (some 65) (.slice (some ⟨g, 0, none⟩) zs.length cx)) _
          simp only [Act.put, List.setIfInBounds_toArray, List.set_cons_zero, List.set_cons_succ]
          refine wpAnyH_take (i := 15) (v := .int .i64 ((k : Int) + 1)) rfl (by kernel_rfl) (by kernel_rfl) (by kernel_rfl) (fun _ _ _ h => h) (Or.inl ⟨by kernel_rfl, fun w _ => by kernel_rfl⟩) hd2 ?_
          change wpAnyH _ _ _ _ _ _ _ (Act.put _ (some 66) (.int .i64 ((k : Int) + 1))) _
          simp only [Act.put, List.setIfInBounds_toArray, List.set_cons_zero, List.set_cons_succ]
          refine wpAnyH_take (i := 16) (v := .int .i64 (k : Int)) rfl (by kernel_rfl) (by kernel_rfl) (by kernel_rfl) (fun _ _ _ h => h) (Or.inl ⟨by kernel_rfl, fun w hS => by go_simp⟩) hd2 ?_
          change wpAnyH _ _ _ _ _ _ _ (Act.put _ (some 67) (.int .i64 (k : Int))) _
          simp only [Act.put, List.setIfInBounds_toArray, List.set_cons_zero, List.set_cons_succ]
          refine wpAnyH_take (i := 17) (v := .pointer (some ⟨g, k, none⟩)) rfl (by kernel_rfl) (by kernel_rfl) (by kernel_rfl) (fun _ _ _ h => h) (Or.inl ⟨by kernel_rfl, fun w hS => by go_simp⟩) hd2 ?_
          change wpAnyH _ _ _ _ _ _ _ (Act.put _ (some 68) (.pointer (some ⟨g, k, none⟩))) _
          simp only [Act.put, List.setIfInBounds_toArray, List.set_cons_zero, List.set_cons_succ]
          refine wpAnyH_take (i := 18) (v := .int .i64 y1) rfl (by kernel_rfl) (by kernel_rfl) (by kernel_rfl) (fun _ _ _ h => h) (Or.inl ⟨by kernel_rfl, fun w hS => by have hS1 := hS.1; have hS2 := hS.2; go_simp⟩) hd2 ?_
          change wpAnyH _ _ _ _ _ _ _ (Act.put _ (some 69) (.int .i64 y1)) _
          simp only [Act.put, List.setIfInBounds_toArray, List.set_cons_zero, List.set_cons_succ]
          refine wpAnyH_take (i := 19) (v := .bool false) rfl (by kernel_rfl) (by kernel_rfl) (by kernel_rfl) (fun _ _ _ h => h) (Or.inl ⟨by kernel_rfl, fun w hS => by go_simp⟩) hd2 ?_
          change wpAnyH _ _ _ _ _ _ _ (Act.put _ (some 70) (.bool false)) _
          simp only [Act.put, List.setIfInBounds_toArray, List.set_cons_zero, List.set_cons_succ]
          refine wpAnyH_take (i := 20) (v := .bool false) rfl (by kernel_rfl) (by kernel_rfl) (by kernel_rfl) (fun _ _ _ h => h) (Or.inl ⟨by kernel_rfl, fun w _ => by kernel_rfl⟩) hd2 ?_
          change wpAnyH _ _ _ _ _ _ _ (Act.put _ (some 71) (.bool false)) _
          simp only [Act.put, List.setIfInBounds_toArray, List.set_cons_zero, List.set_cons_succ]
          refine wpAnyH_take (i := 21) (v := .bool false) rfl (by kernel_rfl) (by kernel_rfl) (by kernel_rfl) (fun _ _ _ h => h) (Or.inl ⟨by kernel_rfl, fun w _ => by kernel_rfl⟩) hd2 ?_
          change wpAnyH _ _ _ _ _ _ _ (Act.put _ (some 72) (.bool false)) _
          simp only [Act.put, List.setIfInBounds_toArray, List.set_cons_zero, List.set_cons_succ]
          refine wpAnyH_done (by kernel_rfl) ?_ _
          go_wp2_with fail
          go_roundw
          case rel => exact ⟨k + 1 + 1, by omega, by go_num, HO5, HZ5, HB5⟩
          case measure => simp [intOf]; omega
      · obtain rfl : k = 15 := by omega
        obtain ⟨g, rfl, _, _⟩ := own_at ho.out (by rw [HL.out]; decide)
        have hc0 := ho.out.cell (j := 0) (by rw [HL.out]; decide)
        have hc14 := ho.out.cell (j := 14) (by rw [HL.out]; decide)
        have HF0 := Lib.hid (HH.out 0 (by omega))
        have HF14 := Lib.hid (HH.out 14 (by omega))
        generalize zs.getD 0 0 = y0 at *
        have HY14 := Lib.hid (show ∃ y, zs.getD 14 0 = y from ⟨_, rfl⟩)
        generalize he14 : zs.getD 14 0 = y14 at *
        have HE14 := Lib.hid he14
        clear he14
        go_wp2_with fail
        refine (iSextetHolds_calls _ _ xs y0 _ hz.out.rds hz.out.len_le (hT.below hbl.out hT.lt).2).mono ?_
        rintro e w5 ⟨he, b5⟩
        rw [HF0.out] at he
        subst he
        have hz5 := Lib.hid (hz.out.below b5)
        have ho5 := Lib.hid (ho.out.below b5)
        have hb5 := Lib.hid (hbl.out.trans (b5.mono hbl.out.size))
        have hc15 := ho5.out.cell (j := 14) (by rw [HL.out]; decide)
        rw [HE14.out] at hc15
        clear b5
        go_wp2_with fail
        refine (iSextetHolds_calls _ _ xs y14 _ hz5.out.rds hz5.out.len_le (hT.below hb5.out hT.lt).2).mono ?_
        rintro e w6 ⟨he, b6⟩
        rw [HF14.out] at he
        subst he
        have hb6 := Lib.hid (hb5.out.trans (b6.mono hb5.out.size))
        clear b6
        go_wp2_with fail
        go_ret
        exact ⟨rfl, hb6.out⟩
end Go.Proofs.YtagniijhbiglaaaGreatDoor
