/- The walk of promise 37. -/
import Derived.Test.YtagniijhbiglaaaDoorC51
import Derived.Test.YtagniijhbiglaaaDoorC54
import Derived.Test.YtagniijhbiglaaaDoorQ3
import Derived.Deep.RegionHeld3
namespace Go.Proofs.YtagniijhbiglaaaDoor
open Go.RowKit
set_option linter.unusedVariables false
attribute [local irreducible] octS cN octF syn

theorem sxA_no {a : Int} (h : tetB a = false) : sxA a = ([], false) := by unfold sxA; rw [h]; rfl
theorem sxA_yes {a : Int} (h : tetB a = true) : sxA a = (sxOf a, true) := by unfold sxA; rw [h]; rfl
theorem sxA_again {a x : Int} (h : Tet a) (hx : x ∈ sxOf a) : sxA x = (sxOf a, true) := by
  obtain ⟨h1, h2⟩ := sxOf_same h hx
  unfold sxA
  rw [(tetB_iff _).2 h1, h2]; rfl
theorem oct_in37 {x : Int} (h : IsOct x) : oIn x = true := by
  have hr := h.rng
  obtain ⟨m, hm, e, h8⟩ := h
  rw [oIn_of hr, h8, (codeIn_iff x hr.1 hr.2).2 ⟨m, hm, e⟩]
  rfl
/-- Whether the word is among the first k. -/
def fndTo (a : Int) (L : List Int) : Nat → Bool
  | 0 => false
  | k + 1 => fndTo a L k || L.getD k 0 == a
theorem fndTo_yes (a : Int) (L : List Int) : ∀ n k, k < n → L.getD k 0 = a → fndTo a L n = true
  | n + 1, k, hk, h => by
    unfold fndTo
    by_cases e : k = n
    · rw [← e, h]; simp
    · rw [fndTo_yes a L n k (by omega) h]; rfl
theorem fnd_all {a : Int} (h : Tet a) : fndTo a (sxOf a) 6 = true := by
  obtain ⟨k, hk, e⟩ := List.getElem_of_mem (sxOf_self h)
  rw [getD_at _ k hk] at e
  exact fndTo_yes a _ 6 k (by rw [sxOf_len h] at hk; exact hk) e
/-- What is known of a sextet. -/
theorem sx_known {a : Int} (h : Tet a) : (∀ k, k < 6 → IsW ((sxOf a).getD k 0) ∧ wt ((sxOf a).getD k 0) = 4 ∧ bits .and .i64 (orTo (sxOf a) k) ((sxOf a).getD k 0) = 0 ∧ bits .or .i64 (orTo (sxOf a) k) ((sxOf a).getD k 0) = orTo (sxOf a) (k + 1) ∧ sxA ((sxOf a).getD k 0) = (sxOf a, true)) ∧
    (∀ k, k + 1 < 6 → (sxOf a).getD k 0 < (sxOf a).getD (k + 1) 0 ∧ ∃ z, bits .xor .i64 ((sxOf a).getD (k + 1) 0) ((sxOf a).getD 0 0) = z ∧ oIn z = true) := by
  refine ⟨fun k hk => ?_, fun k hk => ?_⟩
  · have ht := (sxOf_same h (sx_at h k hk)).1
    have hr := sx_or_rng h k (by omega)
    refine ⟨⟨ht.1, ht.2.1⟩, ht.2.2, ?_, ?_, sxA_again h (sx_at h k hk)⟩
    · rw [and_i64 _ _ hr.1 (by omega) ht.1 (by have := ht.2.1; omega)]
      exact sx_or_none h k hk
    · rw [or_i64 _ _ hr.1 (by omega) ht.1 (by have := ht.2.1; omega)]
      rfl
  · have h1 := (sxOf_same h (sx_at h (k + 1) hk)).1
    have h0 := (sxOf_same h (sx_at h 0 (by omega))).1
    refine ⟨sx_lt h k (k + 1) hk (by omega), _, xor_i64 _ _ h1.1 (by have := h1.2.1; omega) h0.1 (by have := h0.2.1; omega), oct_in37 (sx_apart h (sx_at h (k + 1) hk) (sx_at h 0 (by omega)) (sx_ne h (k + 1) 0 hk (by omega) (by omega))).2⟩
set_option maxRecDepth 100000 in
set_option maxHeartbeats 2000000 in
theorem walk_FnSextet (a0 : Option Addr) (len0 cap0 : Nat) (z0 : List Int) (w : World) (w0 : IsRow .u8 w a0 len0 cap0 z0) (hT : Tab3 w) :
    Calls Tryd.prog 3 #[.slice a0 len0 cap0] w fun e w' => e = .returned (.bool true) ∧ Below w.heap.size w w' := by
  obtain ⟨bs, rfl, hr, hc, hm, hv⟩ := w0.bytes
  have hm' := hm
  unfold maxLen at hm'
  by_cases hbig : 1048576 < bs.length
  · go_enter Tryd.func3, Tryd.ntmps3
    go_wp2_with fail
    go_ret
    exact ⟨rfl, Below.refl _ _⟩
  have hbig' : bs.length ≤ 1048576 := by omega
  clear hbig
  go_enter Tryd.func3, Tryd.ntmps3
  go_wp2_with fail
  refine (DrawSextetOf_calls _ _ bs _ hr hc hm hv).mono ?_
  rintro e w1 ⟨a, rfl, a0, a1, b1⟩
  have B0 := Lib.hid (b1)
  rcases hb : tetB a with _ | _
  · have H := Lib.hid (sxA_no hb)
    clear hb
    go_wp2_with fail
    refine (iSextetOf_calls a _ (hT.below (B0.out) hT.lt).2).mono ?_
    rintro e w1_ ⟨v1_, he, o1_, b1_⟩
    rw [H.out] at he o1_
    dsimp only at he o1_
    subst he
    obtain ⟨Ax, cx, rfl⟩ := o1_.slice
    have B1 := Lib.hid ((B0.out).trans (b1_.mono (B0.out).size))
    have Ox1 := Lib.hid (o1_.weak (B0.out).size)
    go_wp2_with fail
    refine (sSextetOf_calls a _).mono ?_
    rintro e w2_ ⟨v2_, he, o2_, b2_⟩
    rw [H.out] at he o2_
    dsimp only at he o2_
    subst he
    obtain ⟨Ay, cy, rfl⟩ := o2_.slice
    have B2 := Lib.hid ((B1.out).trans (b2_.mono (B1.out).size))
    have Ox2 := Lib.hid ((Ox1.out).below b2_)
    have Oy2 := Lib.hid (o2_.weak (B1.out).size)
    go_wp2_with fail
    refine (sameInts_calls _ _ _ _ [] [] _ (Ox2.out).rds (Oy2.out).rds (Ox2.out).len_le (Oy2.out).len_le).mono ?_
    rintro e w' ⟨he, k3_, rfl⟩
    rw [eqL_refl] at he
    subst he
    have B3 := Lib.hid (below_drewN (B2.out) k3_)
    have Ox3 := Lib.hid ((Ox2.out).drewN k3_)
    have Oy3 := Lib.hid ((Oy2.out).drewN k3_)
    go_wp2_with fail
    refine (sameInts_calls _ _ _ _ [] [] _ (Ox3.out).rds (Oy3.out).rds (Ox3.out).len_le (Oy3.out).len_le).mono ?_
    rintro e w' ⟨he, k4_, rfl⟩
    rw [eqL_refl] at he
    subst he
    have B4 := Lib.hid (below_drewN (B3.out) k4_)
    have Ox4 := Lib.hid ((Ox3.out).drewN k4_)
    have Oy4 := Lib.hid ((Oy3.out).drewN k4_)
    go_wp2_with fail
    go_ret
    first | exact ⟨rfl, B4.out⟩ | exact ⟨rfl, by have hB := B4.out; simp only [World.drewN_drewN] at hB; exact hB⟩
  · have hT4 := (tetB_iff a).1 hb
    have H := Lib.hid (sxA_yes hb)
    obtain ⟨hK1, hK2⟩ := sx_known hT4
    have HK1 := Lib.hid hK1
    have HK2 := Lib.hid hK2
    have HL := Lib.hid (sxOf_len hT4)
    have HALL := Lib.hid (sx_or_all hT4)
    have HFA := Lib.hid (fnd_all hT4)
    clear hb hK1 hK2 hT4
    generalize sxOf a = zs at *
    go_wp2_with fail
    refine (iSextetOf_calls a _ (hT.below (B0.out) hT.lt).2).mono ?_
    rintro e w1_ ⟨v1_, he, o1_, b1_⟩
    rw [H.out] at he o1_
    dsimp only at he o1_
    subst he
    obtain ⟨Ax, cx, rfl⟩ := o1_.slice
    have B1 := Lib.hid ((B0.out).trans (b1_.mono (B0.out).size))
    have Ox1 := Lib.hid (o1_.weak (B0.out).size)
    go_wp2_with fail
    refine (sSextetOf_calls a _).mono ?_
    rintro e w2_ ⟨v2_, he, o2_, b2_⟩
    rw [H.out] at he o2_
    dsimp only at he o2_
    subst he
    obtain ⟨Ay, cy, rfl⟩ := o2_.slice
    have B2 := Lib.hid ((B1.out).trans (b2_.mono (B1.out).size))
    have Ox2 := Lib.hid ((Ox1.out).below b2_)
    have Oy2 := Lib.hid (o2_.weak (B1.out).size)
    go_wp2_with fail
    refine (sameInts_calls _ _ _ _ zs zs _ (Ox2.out).rds (Oy2.out).rds (Ox2.out).len_le (Oy2.out).len_le).mono ?_
    rintro e w' ⟨he, k3_, rfl⟩
    rw [eqL_refl] at he
    subst he
    have B3 := Lib.hid (below_drewN (B2.out) k3_)
    have Ox3 := Lib.hid ((Ox2.out).drewN k3_)
    have Oy3 := Lib.hid ((Oy2.out).drewN k3_)
    have HX := Lib.hid (Ox3.out)
    have HBZ := Lib.hid (B3.out)
    have hl6 : ((zs.length : Nat) : Int) = 6 := by rw [HL.out]; rfl
    go_wp2_with fail
    go_loopw [8, 9, 10] (fun sn fd i wr => ∃ k : Nat, k ≤ 6 ∧ i = .int .i64 k ∧ sn = .int .i64 (orTo zs k) ∧ fd = .bool (fndTo a zs k) ∧ Hid (Own wr w.heap.size (.slice Ax zs.length cx) zs) ∧ Hid (Below w.heap.size w wr)) (fun _ _ i _ => 6 - (intOf i).toNat)
    case atStart => exact ⟨0, by omega, rfl, rfl, rfl, HX, HBZ⟩
    case round =>
      obtain ⟨k, hk, rfl, rfl, rfl, ho, hbl⟩ := hrel
      by_cases hlt6 : k < 6
      · have hlt : k < zs.length := by rw [HL.out]; exact hlt6
        obtain ⟨g, rfl, _, _⟩ := own_at ho.out (by omega)
        obtain ⟨wy, hy4, hand, hor, _⟩ := HK1.out k hlt6
        have hc0 := ho.out.cell (j := k) hlt
        have HW := Lib.hid (fun W => iWordWeight_ok (zs.getD k 0) W wy)
        rw [hy4] at HW
        have HF := Lib.hid (show fndTo a zs (k + 1) = (fndTo a zs k || zs.getD k 0 == a) from rfl)
        have HOR := Lib.hid hor
        clear hor hy4
        rcases k with _ | k
        · obtain ⟨y, hy⟩ : ∃ y, zs.getD 0 0 = y := ⟨_, rfl⟩
          rw [hy] at hc0 HW hand HOR HF
          have HY := Lib.hid hy
          clear hy wy
          obtain ⟨sn2, hsn2⟩ : ∃ s, orTo zs 1 = s := ⟨_, rfl⟩
          obtain ⟨f2, hf2e⟩ : ∃ f, fndTo a zs 1 = f := ⟨_, rfl⟩
          rw [show orTo zs (0 + 1) = orTo zs 1 from rfl, hsn2] at HOR
          rw [show fndTo a zs (0 + 1) = fndTo a zs 1 from rfl, show fndTo a zs 0 = false from rfl, Bool.false_or, hf2e] at HF
          have HSN := Lib.hid hsn2
          have HF2 := Lib.hid hf2e
          clear hsn2 hf2e
          have hnn := HOR.out
          generalize orTo zs 0 = sn at *
          rw [show fndTo a zs 0 = false from rfl]
          go_wp2_with fail
          refine wp_region_held_drew (S := fun w' => w'.cell? ⟨g, 0, none⟩ = some (.int .i64 y)) (by kernel_rfl) hc0 (fun hd => ?_)
          refine wpAnyH_take (i := 0) (v := .slice (some ⟨g, 0, none⟩) zs.length cx) rfl (by kernel_rfl) (by kernel_rfl) (by kernel_rfl) (fun _ _ _ h => h) (Or.inl ⟨by kernel_rfl, fun w _ => by kernel_rfl⟩) hd ?_
          change wpAnyH _ _ _ _ _ _ _ (Act.put _ (some 55) (.slice (some ⟨g, 0, none⟩) zs.length cx)) _
          simp only [Act.put, List.setIfInBounds_toArray, List.set_cons_zero, List.set_cons_succ]
          refine wpAnyH_take (i := 1) (v := .int .i64 0) rfl (by kernel_rfl) (by kernel_rfl) (by kernel_rfl) (fun _ _ _ h => h) (Or.inl ⟨by kernel_rfl, fun w _ => by kernel_rfl⟩) hd ?_
          change wpAnyH _ _ _ _ _ _ _ (Act.put _ (some 56) (.int .i64 0)) _
          simp only [Act.put, List.setIfInBounds_toArray, List.set_cons_zero, List.set_cons_succ]
          refine wpAnyH_take (i := 2) (v := .pointer (some ⟨g, 0, none⟩)) rfl (by kernel_rfl) (by kernel_rfl) (by kernel_rfl) (fun _ _ _ h => h) (Or.inl ⟨by kernel_rfl, fun w hS => by go_simp⟩) hd ?_
          change wpAnyH _ _ _ _ _ _ _ (Act.put _ (some 57) (.pointer (some ⟨g, 0, none⟩))) _
          simp only [Act.put, List.setIfInBounds_toArray, List.set_cons_zero, List.set_cons_succ]
          refine wpAnyH_take (i := 3) (v := .int .i64 y) rfl (by kernel_rfl) (by kernel_rfl) (by kernel_rfl) (fun _ _ _ h => h) (Or.inl ⟨by kernel_rfl, fun w hS => by go_simp⟩) hd ?_
          change wpAnyH _ _ _ _ _ _ _ (Act.put _ (some 58) (.int .i64 y)) _
          simp only [Act.put, List.setIfInBounds_toArray, List.set_cons_zero, List.set_cons_succ]
          refine wpAnyH_ready (rs := [4]) (by kernel_rfl) (by simp) ?_
          refine AllReadyH.cons rfl (fun K hK => ?_) AllReadyH.nil
          go_simp
          go_at_call 15
          refine (HW.out _).mono ?_
          rintro e w5 ⟨he, kk, hw5⟩
          subst he
          have HO5 := Lib.hid (show Own w5 w.heap.size (.slice (some ⟨g, 0, none⟩) zs.length cx) zs by rw [hw5]; exact ho.out)
          have HB5 := Lib.hid (show Below w.heap.size w w5 by rw [hw5]; exact (by first | exact hbl.out | exact below_drewN hbl.out _ | exact hbl.out.drew | exact (below_drewN hbl.out _).drew | exact below_drewN (below_drewN hbl.out _) _ | exact below_drewN hbl.out.drew _))
          have hd2 : (fun w' => w'.cell? ⟨g, 0, none⟩ = some (.int .i64 y)) w5 := by rw [hw5]; exact hd
          clear hw5
          refine hK.out _ _ hd2 (fun _ => ?_)
          refine wpAnyH_take (i := 5) (v := .bool false) rfl (by kernel_rfl) (by kernel_rfl) (by kernel_rfl) (fun _ _ _ h => h) (Or.inl ⟨by kernel_rfl, fun w _ => by kernel_rfl⟩) hd2 ?_
          change wpAnyH _ _ _ _ _ _ _ (Act.put _ (some 60) (.bool false)) _
          simp only [Act.put, List.setIfInBounds_toArray, List.set_cons_zero, List.set_cons_succ]
          refine wpAnyH_take (i := 6) (v := .bool false) rfl (by kernel_rfl) (by kernel_rfl) (by kernel_rfl) (fun _ _ _ h => h) (Or.inl ⟨by kernel_rfl, fun w _ => by kernel_rfl⟩) hd2 ?_
          change wpAnyH _ _ _ _ _ _ _ (Act.put _ (some 61) (.bool false)) _
          simp only [Act.put, List.setIfInBounds_toArray, List.set_cons_zero, List.set_cons_succ]
          refine wpAnyH_take (i := 7) (v := .int .i64 sn) rfl (by kernel_rfl) (by kernel_rfl) (by kernel_rfl) (fun _ _ _ h => h) (Or.inl ⟨by kernel_rfl, fun w _ => by kernel_rfl⟩) hd2 ?_
          change wpAnyH _ _ _ _ _ _ _ (Act.put _ (some 62) (.int .i64 sn)) _
          simp only [Act.put, List.setIfInBounds_toArray, List.set_cons_zero, List.set_cons_succ]
          refine wpAnyH_take (i := 8) (v := .slice (some ⟨g, 0, none⟩) zs.length cx) rfl (by kernel_rfl) (by kernel_rfl) (by kernel_rfl) (fun _ _ _ h => h) (Or.inl ⟨by kernel_rfl, fun w _ => by kernel_rfl⟩) hd2 ?_
          change wpAnyH _ _ _ _ _ _ _ (Act.put _ (some 63) (.slice (some ⟨g, 0, none⟩) zs.length cx)) _
          simp only [Act.put, List.setIfInBounds_toArray, List.set_cons_zero, List.set_cons_succ]
          refine wpAnyH_take (i := 9) (v := .int .i64 0) rfl (by kernel_rfl) (by kernel_rfl) (by kernel_rfl) (fun _ _ _ h => h) (Or.inl ⟨by kernel_rfl, fun w _ => by kernel_rfl⟩) hd2 ?_
          change wpAnyH _ _ _ _ _ _ _ (Act.put _ (some 64) (.int .i64 0)) _
          simp only [Act.put, List.setIfInBounds_toArray, List.set_cons_zero, List.set_cons_succ]
          refine wpAnyH_take (i := 10) (v := .pointer (some ⟨g, 0, none⟩)) rfl (by kernel_rfl) (by kernel_rfl) (by kernel_rfl) (fun _ _ _ h => h) (Or.inl ⟨by kernel_rfl, fun w hS => by go_simp⟩) hd2 ?_
          change wpAnyH _ _ _ _ _ _ _ (Act.put _ (some 65) (.pointer (some ⟨g, 0, none⟩))) _
          simp only [Act.put, List.setIfInBounds_toArray, List.set_cons_zero, List.set_cons_succ]
          refine wpAnyH_take (i := 11) (v := .int .i64 y) rfl (by kernel_rfl) (by kernel_rfl) (by kernel_rfl) (fun _ _ _ h => h) (Or.inl ⟨by kernel_rfl, fun w hS => by go_simp⟩) hd2 ?_
          change wpAnyH _ _ _ _ _ _ _ (Act.put _ (some 66) (.int .i64 y)) _
          simp only [Act.put, List.setIfInBounds_toArray, List.set_cons_zero, List.set_cons_succ]
          refine wpAnyH_take (i := 12) (v := .int .i64 0) rfl (by kernel_rfl) (by kernel_rfl) (by kernel_rfl) (fun _ _ _ h => h) (Or.inl ⟨by kernel_rfl, fun w hS => by go_simp⟩) hd2 ?_
          change wpAnyH _ _ _ _ _ _ _ (Act.put _ (some 67) (.int .i64 0)) _
          simp only [Act.put, List.setIfInBounds_toArray, List.set_cons_zero, List.set_cons_succ]
          refine wpAnyH_take (i := 13) (v := .bool false) rfl (by kernel_rfl) (by kernel_rfl) (by kernel_rfl) (fun _ _ _ h => h) (Or.inl ⟨by kernel_rfl, fun w _ => by kernel_rfl⟩) hd2 ?_
          change wpAnyH _ _ _ _ _ _ _ (Act.put _ (some 68) (.bool false)) _
          simp only [Act.put, List.setIfInBounds_toArray, List.set_cons_zero, List.set_cons_succ]
          refine wpAnyH_take (i := 14) (v := .bool false) rfl (by kernel_rfl) (by kernel_rfl) (by kernel_rfl) (fun _ _ _ h => h) (Or.inl ⟨by kernel_rfl, fun w _ => by kernel_rfl⟩) hd2 ?_
          change wpAnyH _ _ _ _ _ _ _ (Act.put _ (some 69) (.bool false)) _
          simp only [Act.put, List.setIfInBounds_toArray, List.set_cons_zero, List.set_cons_succ]
          refine wpAnyH_take (i := 15) (v := .bool false) rfl (by kernel_rfl) (by kernel_rfl) (by kernel_rfl) (fun _ _ _ h => h) (Or.inl ⟨by kernel_rfl, fun w _ => by kernel_rfl⟩) hd2 ?_
          change wpAnyH _ _ _ _ _ _ _ (Act.put _ (some 70) (.bool false)) _
          simp only [Act.put, List.setIfInBounds_toArray, List.set_cons_zero, List.set_cons_succ]
          refine wpAnyH_take (i := 16) (v := .int .i64 0) rfl (by kernel_rfl) (by kernel_rfl) (by kernel_rfl) (fun _ _ _ h => h) (Or.inl ⟨by kernel_rfl, fun w _ => by kernel_rfl⟩) hd2 ?_
          change wpAnyH _ _ _ _ _ _ _ (Act.put _ (some 71) (.int .i64 0)) _
          simp only [Act.put, List.setIfInBounds_toArray, List.set_cons_zero, List.set_cons_succ]
          refine wpAnyH_take (i := 17) (v := .bool false) rfl (by kernel_rfl) (by kernel_rfl) (by kernel_rfl) (fun _ _ _ h => h) (Or.inl ⟨by kernel_rfl, fun w hS => by go_simp⟩) hd2 ?_
          change wpAnyH _ _ _ _ _ _ _ (Act.put _ (some 72) (.bool false)) _
          simp only [Act.put, List.setIfInBounds_toArray, List.set_cons_zero, List.set_cons_succ]
          refine wpAnyH_take (i := 18) (v := .bool false) rfl (by kernel_rfl) (by kernel_rfl) (by kernel_rfl) (fun _ _ _ h => h) (Or.inl ⟨by kernel_rfl, fun w _ => by kernel_rfl⟩) hd2 ?_
          change wpAnyH _ _ _ _ _ _ _ (Act.put _ (some 73) (.bool false)) _
          simp only [Act.put, List.setIfInBounds_toArray, List.set_cons_zero, List.set_cons_succ]
          refine wpAnyH_take (i := 19) (v := undef) rfl (by kernel_rfl) (by kernel_rfl) (by kernel_rfl) (fun _ _ _ h => h) (Or.inr ⟨by kernel_rfl, rfl⟩) hd2 ?_
          change wpAnyH _ _ _ _ _ _ _ (Act.put _ (some 74) (undef)) _
          simp only [Act.put, List.setIfInBounds_toArray, List.set_cons_zero, List.set_cons_succ]
          refine wpAnyH_take (i := 20) (v := undef) rfl (by kernel_rfl) (by kernel_rfl) (by kernel_rfl) (fun _ _ _ h => h) (Or.inr ⟨by kernel_rfl, rfl⟩) hd2 ?_
          change wpAnyH _ _ _ _ _ _ _ (Act.put _ (some 75) (undef)) _
          simp only [Act.put, List.setIfInBounds_toArray, List.set_cons_zero, List.set_cons_succ]
          refine wpAnyH_take (i := 21) (v := undef) rfl (by kernel_rfl) (by kernel_rfl) (by kernel_rfl) (fun _ _ _ h => h) (Or.inr ⟨by kernel_rfl, rfl⟩) hd2 ?_
          change wpAnyH _ _ _ _ _ _ _ (Act.put _ (some 76) (undef)) _
          simp only [Act.put, List.setIfInBounds_toArray, List.set_cons_zero, List.set_cons_succ]
          refine wpAnyH_take (i := 22) (v := undef) rfl (by kernel_rfl) (by kernel_rfl) (by kernel_rfl) (fun _ _ _ h => h) (Or.inr ⟨by kernel_rfl, rfl⟩) hd2 ?_
          change wpAnyH _ _ _ _ _ _ _ (Act.put _ (some 77) (undef)) _
          simp only [Act.put, List.setIfInBounds_toArray, List.set_cons_zero, List.set_cons_succ]
          refine wpAnyH_take (i := 23) (v := undef) rfl (by kernel_rfl) (by kernel_rfl) (by kernel_rfl) (fun _ _ _ h => h) (Or.inr ⟨by kernel_rfl, rfl⟩) hd2 ?_
          change wpAnyH _ _ _ _ _ _ _ (Act.put _ (some 78) (undef)) _
          simp only [Act.put, List.setIfInBounds_toArray, List.set_cons_zero, List.set_cons_succ]
          refine wpAnyH_take (i := 24) (v := undef) rfl (by kernel_rfl) (by kernel_rfl) (by kernel_rfl) (fun _ _ _ h => h) (Or.inr ⟨by kernel_rfl, rfl⟩) hd2 ?_
          change wpAnyH _ _ _ _ _ _ _ (Act.put _ (some 79) (undef)) _
          simp only [Act.put, List.setIfInBounds_toArray, List.set_cons_zero, List.set_cons_succ]
          refine wpAnyH_take (i := 25) (v := undef) rfl (by kernel_rfl) (by kernel_rfl) (by kernel_rfl) (fun _ _ _ h => h) (Or.inr ⟨by kernel_rfl, rfl⟩) hd2 ?_
          change wpAnyH _ _ _ _ _ _ _ (Act.put _ (some 80) (undef)) _
          simp only [Act.put, List.setIfInBounds_toArray, List.set_cons_zero, List.set_cons_succ]
          refine wpAnyH_take (i := 26) (v := undef) rfl (by kernel_rfl) (by kernel_rfl) (by kernel_rfl) (fun _ _ _ h => h) (Or.inr ⟨by kernel_rfl, rfl⟩) hd2 ?_
          change wpAnyH _ _ _ _ _ _ _ (Act.put _ (some 81) (undef)) _
          simp only [Act.put, List.setIfInBounds_toArray, List.set_cons_zero, List.set_cons_succ]
          refine wpAnyH_take (i := 27) (v := undef) rfl (by kernel_rfl) (by kernel_rfl) (by kernel_rfl) (fun _ _ _ h => h) (Or.inr ⟨by kernel_rfl, rfl⟩) hd2 ?_
          change wpAnyH _ _ _ _ _ _ _ (Act.put _ (some 82) (undef)) _
          simp only [Act.put, List.setIfInBounds_toArray, List.set_cons_zero, List.set_cons_succ]
          refine wpAnyH_take (i := 28) (v := undef) rfl (by kernel_rfl) (by kernel_rfl) (by kernel_rfl) (fun _ _ _ h => h) (Or.inr ⟨by kernel_rfl, rfl⟩) hd2 ?_
          change wpAnyH _ _ _ _ _ _ _ (Act.put _ (some 83) (undef)) _
          simp only [Act.put, List.setIfInBounds_toArray, List.set_cons_zero, List.set_cons_succ]
          refine wpAnyH_take (i := 29) (v := undef) rfl (by kernel_rfl) (by kernel_rfl) (by kernel_rfl) (fun _ _ _ h => h) (Or.inr ⟨by kernel_rfl, rfl⟩) hd2 ?_
          change wpAnyH _ _ _ _ _ _ _ (Act.put _ (some 84) (undef)) _
          simp only [Act.put, List.setIfInBounds_toArray, List.set_cons_zero, List.set_cons_succ]
          refine wpAnyH_take (i := 30) (v := undef) rfl (by kernel_rfl) (by kernel_rfl) (by kernel_rfl) (fun _ _ _ h => h) (Or.inr ⟨by kernel_rfl, rfl⟩) hd2 ?_
          change wpAnyH _ _ _ _ _ _ _ (Act.put _ (some 85) (undef)) _
          simp only [Act.put, List.setIfInBounds_toArray, List.set_cons_zero, List.set_cons_succ]
          refine wpAnyH_take (i := 31) (v := undef) rfl (by kernel_rfl) (by kernel_rfl) (by kernel_rfl) (fun _ _ _ h => h) (Or.inr ⟨by kernel_rfl, rfl⟩) hd2 ?_
          change wpAnyH _ _ _ _ _ _ _ (Act.put _ (some 86) (undef)) _
          simp only [Act.put, List.setIfInBounds_toArray, List.set_cons_zero, List.set_cons_succ]
          refine wpAnyH_take (i := 32) (v := undef) rfl (by kernel_rfl) (by kernel_rfl) (by kernel_rfl) (fun _ _ _ h => h) (Or.inr ⟨by kernel_rfl, rfl⟩) hd2 ?_
          change wpAnyH _ _ _ _ _ _ _ (Act.put _ (some 87) (undef)) _
          simp only [Act.put, List.setIfInBounds_toArray, List.set_cons_zero, List.set_cons_succ]
          refine wpAnyH_take (i := 33) (v := undef) rfl (by kernel_rfl) (by kernel_rfl) (by kernel_rfl) (fun _ _ _ h => h) (Or.inr ⟨by kernel_rfl, rfl⟩) hd2 ?_
          change wpAnyH _ _ _ _ _ _ _ (Act.put _ (some 88) (undef)) _
          simp only [Act.put, List.setIfInBounds_toArray, List.set_cons_zero, List.set_cons_succ]
          refine wpAnyH_take (i := 34) (v := undef) rfl (by kernel_rfl) (by kernel_rfl) (by kernel_rfl) (fun _ _ _ h => h) (Or.inr ⟨by kernel_rfl, rfl⟩) hd2 ?_
          change wpAnyH _ _ _ _ _ _ _ (Act.put _ (some 89) (undef)) _
          simp only [Act.put, List.setIfInBounds_toArray, List.set_cons_zero, List.set_cons_succ]
          refine wpAnyH_take (i := 35) (v := undef) rfl (by kernel_rfl) (by kernel_rfl) (by kernel_rfl) (fun _ _ _ h => h) (Or.inr ⟨by kernel_rfl, rfl⟩) hd2 ?_
          change wpAnyH _ _ _ _ _ _ _ (Act.put _ (some 90) (undef)) _
          simp only [Act.put, List.setIfInBounds_toArray, List.set_cons_zero, List.set_cons_succ]
          refine wpAnyH_take (i := 36) (v := undef) rfl (by kernel_rfl) (by kernel_rfl) (by kernel_rfl) (fun _ _ _ h => h) (Or.inr ⟨by kernel_rfl, rfl⟩) hd2 ?_
          change wpAnyH _ _ _ _ _ _ _ (Act.put _ (some 91) (undef)) _
          simp only [Act.put, List.setIfInBounds_toArray, List.set_cons_zero, List.set_cons_succ]
          refine wpAnyH_take (i := 37) (v := undef) rfl (by kernel_rfl) (by kernel_rfl) (by kernel_rfl) (fun _ _ _ h => h) (Or.inr ⟨by kernel_rfl, rfl⟩) hd2 ?_
          change wpAnyH _ _ _ _ _ _ _ (Act.put _ (some 92) (undef)) _
          simp only [Act.put, List.setIfInBounds_toArray, List.set_cons_zero, List.set_cons_succ]
          refine wpAnyH_take (i := 38) (v := undef) rfl (by kernel_rfl) (by kernel_rfl) (by kernel_rfl) (fun _ _ _ h => h) (Or.inr ⟨by kernel_rfl, rfl⟩) hd2 ?_
          change wpAnyH _ _ _ _ _ _ _ (Act.put _ (some 93) (undef)) _
          simp only [Act.put, List.setIfInBounds_toArray, List.set_cons_zero, List.set_cons_succ]
          refine wpAnyH_take (i := 39) (v := undef) rfl (by kernel_rfl) (by kernel_rfl) (by kernel_rfl) (fun _ _ _ h => h) (Or.inr ⟨by kernel_rfl, rfl⟩) hd2 ?_
          change wpAnyH _ _ _ _ _ _ _ (Act.put _ (some 94) (undef)) _
          simp only [Act.put, List.setIfInBounds_toArray, List.set_cons_zero, List.set_cons_succ]
          refine wpAnyH_take (i := 40) (v := undef) rfl (by kernel_rfl) (by kernel_rfl) (by kernel_rfl) (fun _ _ _ h => h) (Or.inr ⟨by kernel_rfl, rfl⟩) hd2 ?_
          change wpAnyH _ _ _ _ _ _ _ (Act.put _ (some 95) (undef)) _
          simp only [Act.put, List.setIfInBounds_toArray, List.set_cons_zero, List.set_cons_succ]
          refine wpAnyH_take (i := 41) (v := .bool false) rfl (by kernel_rfl) (by kernel_rfl) (by kernel_rfl) (fun _ _ _ h => h) (Or.inl ⟨by kernel_rfl, fun w _ => by kernel_rfl⟩) hd2 ?_
          change wpAnyH _ _ _ _ _ _ _ (Act.put _ (some 96) (.bool false)) _
          simp only [Act.put, List.setIfInBounds_toArray, List.set_cons_zero, List.set_cons_succ]
          refine wpAnyH_take (i := 42) (v := .bool false) rfl (by kernel_rfl) (by kernel_rfl) (by kernel_rfl) (fun _ _ _ h => h) (Or.inl ⟨by kernel_rfl, fun w _ => by kernel_rfl⟩) hd2 ?_
          change wpAnyH _ _ _ _ _ _ _ (Act.put _ (some 97) (.bool false)) _
          simp only [Act.put, List.setIfInBounds_toArray, List.set_cons_zero, List.set_cons_succ]
          refine wpAnyH_done (by kernel_rfl) ?_ _
          have hcell := hd2
          by_cases hya : y = a
          · subst hya
            have hf2 : f2 = true := by rw [HF.out]; simp
            clear HF
            go_wp2_with fail
            go_roundw
            case rel => first | exact ⟨1, by omega, rfl, by rw [HSN.out], by rw [HF2.out, hf2], HO5, HB5⟩ | exact ⟨1, by omega, rfl, by rw [HSN.out], by rw [HF2.out, hf2], Lib.hid (HO5.out.drewN _), Lib.hid (below_drewN HB5.out _)⟩
            case measure => (show 6 - 1 < 6 - 0; omega)
          · have hf2 : f2 = false := by rw [HF.out]; simpa using hya
            have hya1 : (y == a) = false := by simpa using hya
            clear HF hya
            go_wp2_with fail
            go_roundw
            case rel => first | exact ⟨1, by omega, rfl, by rw [HSN.out], by rw [HF2.out, hf2], HO5, HB5⟩ | exact ⟨1, by omega, rfl, by rw [HSN.out], by rw [HF2.out, hf2], Lib.hid (HO5.out.drewN _), Lib.hid (below_drewN HB5.out _)⟩
            case measure => (show 6 - 1 < 6 - 0; omega)
        · have hkp : (0 : Int) < (k : Int) + 1 := by omega
          have hk0 : (0 : Int) ≤ (k : Int) := by omega
          have hk1 : (k : Int) < 6 := by omega
          have hk2 : (k : Int) + 1 < 6 := by omega
          have hk3 : (0 : Int) ≤ (k : Int) + 1 := by omega
          have hk4 : (k : Int) < (zs.length : Int) := by omega
          have hk5 : (k : Int) + 1 < (zs.length : Int) := by omega
          have hwk : IntKind.i64.wrap (k : Int) = (k : Int) := by rw [IntKind.wrap_i64]; omega
          have hwk1 : IntKind.i64.wrap ((k : Int) + 1 - 1) = (k : Int) := by rw [IntKind.wrap_i64]; omega
          obtain ⟨hlt2, z, hxor, hoz⟩ := HK2.out k hlt6
          have HOZ := Lib.hid hoz
          have hc1 := ho.out.cell (j := k) (by omega)
          have hcz := ho.out.cell (j := 0) (by omega)
          obtain ⟨y, hy⟩ : ∃ y, zs.getD (k + 1) 0 = y := ⟨_, rfl⟩
          obtain ⟨y1, hy1⟩ : ∃ y1, zs.getD k 0 = y1 := ⟨_, rfl⟩
          obtain ⟨y0, hy0⟩ : ∃ y0, zs.getD 0 0 = y0 := ⟨_, rfl⟩
          rw [hy] at hc0 HW hand hlt2 hxor HOR HF
          rw [hy1] at hc1 hlt2
          rw [hy0] at hcz hxor
          have HY := Lib.hid hy
          have HY1 := Lib.hid hy1
          have HY0 := Lib.hid hy0
          clear hy hy1 hy0 hoz wy
          have hnle : ¬ y ≤ y1 := by omega
          obtain ⟨sn2, hsn2⟩ : ∃ s, orTo zs (k + 1 + 1) = s := ⟨_, rfl⟩
          obtain ⟨f2, hf2e⟩ : ∃ f, fndTo a zs (k + 1 + 1) = f := ⟨_, rfl⟩
          rw [hsn2] at HOR
          rw [hf2e] at HF
          have HSN := Lib.hid hsn2
          have HF2 := Lib.hid hf2e
          clear hsn2 hf2e
          have hnn := HOR.out
          generalize orTo zs (k + 1) = sn at *
          generalize fndTo a zs (k + 1) = f1 at *
          go_wp2_with fail
          refine wp_region_held_drew (S := fun w' => w'.cell? ⟨g, k + 1, none⟩ = some (.int .i64 y) ∧ w'.cell? ⟨g, k, none⟩ = some (.int .i64 y1) ∧ w'.cell? ⟨g, 0, none⟩ = some (.int .i64 y0)) (by kernel_rfl) ⟨hc0, hc1, hcz⟩ (fun hd => ?_)
          refine wpAnyH_take (i := 0) (v := .slice (some ⟨g, 0, none⟩) zs.length cx) rfl (by kernel_rfl) (by kernel_rfl) (by kernel_rfl) (fun _ _ _ h => h) (Or.inl ⟨by kernel_rfl, fun w _ => by kernel_rfl⟩) hd ?_
          change wpAnyH _ _ _ _ _ _ _ (Act.put _ (some 55) (.slice (some ⟨g, 0, none⟩) zs.length cx)) _
          simp only [Act.put, List.setIfInBounds_toArray, List.set_cons_zero, List.set_cons_succ]
          refine wpAnyH_take (i := 1) (v := .int .i64 ((k : Int) + 1)) rfl (by kernel_rfl) (by kernel_rfl) (by kernel_rfl) (fun _ _ _ h => h) (Or.inl ⟨by kernel_rfl, fun w _ => by kernel_rfl⟩) hd ?_
          change wpAnyH _ _ _ _ _ _ _ (Act.put _ (some 56) (.int .i64 ((k : Int) + 1))) _
          simp only [Act.put, List.setIfInBounds_toArray, List.set_cons_zero, List.set_cons_succ]
          refine wpAnyH_take (i := 2) (v := .pointer (some ⟨g, k + 1, none⟩)) rfl (by kernel_rfl) (by kernel_rfl) (by kernel_rfl) (fun _ _ _ h => h) (Or.inl ⟨by kernel_rfl, fun w hS => by go_simp⟩) hd ?_
          change wpAnyH _ _ _ _ _ _ _ (Act.put _ (some 57) (.pointer (some ⟨g, k + 1, none⟩))) _
          simp only [Act.put, List.setIfInBounds_toArray, List.set_cons_zero, List.set_cons_succ]
          refine wpAnyH_take (i := 3) (v := .int .i64 y) rfl (by kernel_rfl) (by kernel_rfl) (by kernel_rfl) (fun _ _ _ h => h) (Or.inl ⟨by kernel_rfl, fun w hS => by have hS1 := hS.1; go_simp⟩) hd ?_
          change wpAnyH _ _ _ _ _ _ _ (Act.put _ (some 58) (.int .i64 y)) _
          simp only [Act.put, List.setIfInBounds_toArray, List.set_cons_zero, List.set_cons_succ]
          refine wpAnyH_ready (rs := [4]) (by kernel_rfl) (by simp) ?_
          refine AllReadyH.cons rfl (fun K hK => ?_) AllReadyH.nil
          go_simp
          go_at_call 15
          refine (HW.out _).mono ?_
          rintro e w5 ⟨he, kk, hw5⟩
          subst he
          have HO5 := Lib.hid (show Own w5 w.heap.size (.slice (some ⟨g, 0, none⟩) zs.length cx) zs by rw [hw5]; exact ho.out)
          have HB5 := Lib.hid (show Below w.heap.size w w5 by rw [hw5]; exact (by first | exact hbl.out | exact below_drewN hbl.out _ | exact hbl.out.drew | exact (below_drewN hbl.out _).drew | exact below_drewN (below_drewN hbl.out _) _ | exact below_drewN hbl.out.drew _))
          have hd2 : (fun w' => w'.cell? ⟨g, k + 1, none⟩ = some (.int .i64 y) ∧ w'.cell? ⟨g, k, none⟩ = some (.int .i64 y1) ∧ w'.cell? ⟨g, 0, none⟩ = some (.int .i64 y0)) w5 := by rw [hw5]; exact hd
          clear hw5
          refine hK.out _ _ hd2 (fun _ => ?_)
          refine wpAnyH_take (i := 5) (v := .bool false) rfl (by kernel_rfl) (by kernel_rfl) (by kernel_rfl) (fun _ _ _ h => h) (Or.inl ⟨by kernel_rfl, fun w _ => by kernel_rfl⟩) hd2 ?_
          change wpAnyH _ _ _ _ _ _ _ (Act.put _ (some 60) (.bool false)) _
          simp only [Act.put, List.setIfInBounds_toArray, List.set_cons_zero, List.set_cons_succ]
          refine wpAnyH_take (i := 6) (v := .bool false) rfl (by kernel_rfl) (by kernel_rfl) (by kernel_rfl) (fun _ _ _ h => h) (Or.inl ⟨by kernel_rfl, fun w _ => by kernel_rfl⟩) hd2 ?_
          change wpAnyH _ _ _ _ _ _ _ (Act.put _ (some 61) (.bool false)) _
          simp only [Act.put, List.setIfInBounds_toArray, List.set_cons_zero, List.set_cons_succ]
          refine wpAnyH_take (i := 7) (v := .int .i64 sn) rfl (by kernel_rfl) (by kernel_rfl) (by kernel_rfl) (fun _ _ _ h => h) (Or.inl ⟨by kernel_rfl, fun w _ => by kernel_rfl⟩) hd2 ?_
          change wpAnyH _ _ _ _ _ _ _ (Act.put _ (some 62) (.int .i64 sn)) _
          simp only [Act.put, List.setIfInBounds_toArray, List.set_cons_zero, List.set_cons_succ]
          refine wpAnyH_take (i := 8) (v := .slice (some ⟨g, 0, none⟩) zs.length cx) rfl (by kernel_rfl) (by kernel_rfl) (by kernel_rfl) (fun _ _ _ h => h) (Or.inl ⟨by kernel_rfl, fun w _ => by kernel_rfl⟩) hd2 ?_
          change wpAnyH _ _ _ _ _ _ _ (Act.put _ (some 63) (.slice (some ⟨g, 0, none⟩) zs.length cx)) _
          simp only [Act.put, List.setIfInBounds_toArray, List.set_cons_zero, List.set_cons_succ]
          refine wpAnyH_take (i := 9) (v := .int .i64 ((k : Int) + 1)) rfl (by kernel_rfl) (by kernel_rfl) (by kernel_rfl) (fun _ _ _ h => h) (Or.inl ⟨by kernel_rfl, fun w _ => by kernel_rfl⟩) hd2 ?_
          change wpAnyH _ _ _ _ _ _ _ (Act.put _ (some 64) (.int .i64 ((k : Int) + 1))) _
          simp only [Act.put, List.setIfInBounds_toArray, List.set_cons_zero, List.set_cons_succ]
          refine wpAnyH_take (i := 10) (v := .pointer (some ⟨g, k + 1, none⟩)) rfl (by kernel_rfl) (by kernel_rfl) (by kernel_rfl) (fun _ _ _ h => h) (Or.inl ⟨by kernel_rfl, fun w hS => by go_simp⟩) hd2 ?_
          change wpAnyH _ _ _ _ _ _ _ (Act.put _ (some 65) (.pointer (some ⟨g, k + 1, none⟩))) _
          simp only [Act.put, List.setIfInBounds_toArray, List.set_cons_zero, List.set_cons_succ]
          refine wpAnyH_take (i := 11) (v := .int .i64 y) rfl (by kernel_rfl) (by kernel_rfl) (by kernel_rfl) (fun _ _ _ h => h) (Or.inl ⟨by kernel_rfl, fun w hS => by have hS1 := hS.1; go_simp⟩) hd2 ?_
          change wpAnyH _ _ _ _ _ _ _ (Act.put _ (some 66) (.int .i64 y)) _
          simp only [Act.put, List.setIfInBounds_toArray, List.set_cons_zero, List.set_cons_succ]
          refine wpAnyH_take (i := 12) (v := .int .i64 0) rfl (by kernel_rfl) (by kernel_rfl) (by kernel_rfl) (fun _ _ _ h => h) (Or.inl ⟨by kernel_rfl, fun w hS => by go_simp⟩) hd2 ?_
          change wpAnyH _ _ _ _ _ _ _ (Act.put _ (some 67) (.int .i64 0)) _
          simp only [Act.put, List.setIfInBounds_toArray, List.set_cons_zero, List.set_cons_succ]
          refine wpAnyH_take (i := 13) (v := .bool false) rfl (by kernel_rfl) (by kernel_rfl) (by kernel_rfl) (fun _ _ _ h => h) (Or.inl ⟨by kernel_rfl, fun w _ => by kernel_rfl⟩) hd2 ?_
          change wpAnyH _ _ _ _ _ _ _ (Act.put _ (some 68) (.bool false)) _
          simp only [Act.put, List.setIfInBounds_toArray, List.set_cons_zero, List.set_cons_succ]
          refine wpAnyH_take (i := 14) (v := .bool false) rfl (by kernel_rfl) (by kernel_rfl) (by kernel_rfl) (fun _ _ _ h => h) (Or.inl ⟨by kernel_rfl, fun w _ => by kernel_rfl⟩) hd2 ?_
          change wpAnyH _ _ _ _ _ _ _ (Act.put _ (some 69) (.bool false)) _
          simp only [Act.put, List.setIfInBounds_toArray, List.set_cons_zero, List.set_cons_succ]
          refine wpAnyH_take (i := 15) (v := .bool false) rfl (by kernel_rfl) (by kernel_rfl) (by kernel_rfl) (fun _ _ _ h => h) (Or.inl ⟨by kernel_rfl, fun w _ => by kernel_rfl⟩) hd2 ?_
          change wpAnyH _ _ _ _ _ _ _ (Act.put _ (some 70) (.bool false)) _
          simp only [Act.put, List.setIfInBounds_toArray, List.set_cons_zero, List.set_cons_succ]
          refine wpAnyH_take (i := 16) (v := .int .i64 ((k : Int) + 1)) rfl (by kernel_rfl) (by kernel_rfl) (by kernel_rfl) (fun _ _ _ h => h) (Or.inl ⟨by kernel_rfl, fun w _ => by kernel_rfl⟩) hd2 ?_
          change wpAnyH _ _ _ _ _ _ _ (Act.put _ (some 71) (.int .i64 ((k : Int) + 1))) _
          simp only [Act.put, List.setIfInBounds_toArray, List.set_cons_zero, List.set_cons_succ]
          refine wpAnyH_take (i := 17) (v := .bool true) rfl (by kernel_rfl) (by kernel_rfl) (by kernel_rfl) (fun _ _ _ h => h) (Or.inl ⟨by kernel_rfl, fun w hS => by go_simp⟩) hd2 ?_
          change wpAnyH _ _ _ _ _ _ _ (Act.put _ (some 72) (.bool true)) _
          simp only [Act.put, List.setIfInBounds_toArray, List.set_cons_zero, List.set_cons_succ]
          refine wpAnyH_take (i := 18) (v := .bool true) rfl (by kernel_rfl) (by kernel_rfl) (by kernel_rfl) (fun _ _ _ h => h) (Or.inl ⟨by kernel_rfl, fun w _ => by kernel_rfl⟩) hd2 ?_
          change wpAnyH _ _ _ _ _ _ _ (Act.put _ (some 73) (.bool true)) _
          simp only [Act.put, List.setIfInBounds_toArray, List.set_cons_zero, List.set_cons_succ]
          refine wpAnyH_take (i := 19) (v := .slice (some ⟨g, 0, none⟩) zs.length cx) rfl (by kernel_rfl) (by kernel_rfl) (by kernel_rfl) (fun _ _ _ h => h) (Or.inl ⟨by kernel_rfl, fun w _ => by kernel_rfl⟩) hd2 ?_
          change wpAnyH _ _ _ _ _ _ _ (Act.put _ (some 74) (.slice (some ⟨g, 0, none⟩) zs.length cx)) _
          simp only [Act.put, List.setIfInBounds_toArray, List.set_cons_zero, List.set_cons_succ]
          refine wpAnyH_take (i := 20) (v := .int .i64 ((k : Int) + 1)) rfl (by kernel_rfl) (by kernel_rfl) (by kernel_rfl) (fun _ _ _ h => h) (Or.inl ⟨by kernel_rfl, fun w _ => by kernel_rfl⟩) hd2 ?_
          change wpAnyH _ _ _ _ _ _ _ (Act.put _ (some 75) (.int .i64 ((k : Int) + 1))) _
          simp only [Act.put, List.setIfInBounds_toArray, List.set_cons_zero, List.set_cons_succ]
          refine wpAnyH_take (i := 21) (v := .pointer (some ⟨g, k + 1, none⟩)) rfl (by kernel_rfl) (by kernel_rfl) (by kernel_rfl) (fun _ _ _ h => h) (Or.inl ⟨by kernel_rfl, fun w hS => by go_simp⟩) hd2 ?_
          change wpAnyH _ _ _ _ _ _ _ (Act.put _ (some 76) (.pointer (some ⟨g, k + 1, none⟩))) _
          simp only [Act.put, List.setIfInBounds_toArray, List.set_cons_zero, List.set_cons_succ]
          refine wpAnyH_take (i := 22) (v := .int .i64 y) rfl (by kernel_rfl) (by kernel_rfl) (by kernel_rfl) (fun _ _ _ h => h) (Or.inl ⟨by kernel_rfl, fun w hS => by have hS1 := hS.1; go_simp⟩) hd2 ?_
          change wpAnyH _ _ _ _ _ _ _ (Act.put _ (some 77) (.int .i64 y)) _
          simp only [Act.put, List.setIfInBounds_toArray, List.set_cons_zero, List.set_cons_succ]
          refine wpAnyH_take (i := 23) (v := .slice (some ⟨g, 0, none⟩) zs.length cx) rfl (by kernel_rfl) (by kernel_rfl) (by kernel_rfl) (fun _ _ _ h => h) (Or.inl ⟨by kernel_rfl, fun w _ => by kernel_rfl⟩) hd2 ?_
          change wpAnyH _ _ _ _ _ _ _ (Act.put _ (some 78) (.slice (some ⟨g, 0, none⟩) zs.length cx)) _
          simp only [Act.put, List.setIfInBounds_toArray, List.set_cons_zero, List.set_cons_succ]
          refine wpAnyH_take (i := 24) (v := .int .i64 ((k : Int) + 1)) rfl (by kernel_rfl) (by kernel_rfl) (by kernel_rfl) (fun _ _ _ h => h) (Or.inl ⟨by kernel_rfl, fun w _ => by kernel_rfl⟩) hd2 ?_
          change wpAnyH _ _ _ _ _ _ _ (Act.put _ (some 79) (.int .i64 ((k : Int) + 1))) _
          simp only [Act.put, List.setIfInBounds_toArray, List.set_cons_zero, List.set_cons_succ]
          refine wpAnyH_take (i := 25) (v := .int .i64 (k : Int)) rfl (by kernel_rfl) (by kernel_rfl) (by kernel_rfl) (fun _ _ _ h => h) (Or.inl ⟨by kernel_rfl, fun w hS => by go_simp⟩) hd2 ?_
          change wpAnyH _ _ _ _ _ _ _ (Act.put _ (some 80) (.int .i64 (k : Int))) _
          simp only [Act.put, List.setIfInBounds_toArray, List.set_cons_zero, List.set_cons_succ]
          refine wpAnyH_take (i := 26) (v := .pointer (some ⟨g, k, none⟩)) rfl (by kernel_rfl) (by kernel_rfl) (by kernel_rfl) (fun _ _ _ h => h) (Or.inl ⟨by kernel_rfl, fun w hS => by go_simp⟩) hd2 ?_
          change wpAnyH _ _ _ _ _ _ _ (Act.put _ (some 81) (.pointer (some ⟨g, k, none⟩))) _
          simp only [Act.put, List.setIfInBounds_toArray, List.set_cons_zero, List.set_cons_succ]
          refine wpAnyH_take (i := 27) (v := .int .i64 y1) rfl (by kernel_rfl) (by kernel_rfl) (by kernel_rfl) (fun _ _ _ h => h) (Or.inl ⟨by kernel_rfl, fun w hS => by have hS1 := hS.2.1; go_simp⟩) hd2 ?_
          change wpAnyH _ _ _ _ _ _ _ (Act.put _ (some 82) (.int .i64 y1)) _
          simp only [Act.put, List.setIfInBounds_toArray, List.set_cons_zero, List.set_cons_succ]
          refine wpAnyH_take (i := 28) (v := .bool false) rfl (by kernel_rfl) (by kernel_rfl) (by kernel_rfl) (fun _ _ _ h => h) (Or.inl ⟨by kernel_rfl, fun w hS => by go_simp⟩) hd2 ?_
          change wpAnyH _ _ _ _ _ _ _ (Act.put _ (some 83) (.bool false)) _
          simp only [Act.put, List.setIfInBounds_toArray, List.set_cons_zero, List.set_cons_succ]
          refine wpAnyH_take (i := 29) (v := .bool false) rfl (by kernel_rfl) (by kernel_rfl) (by kernel_rfl) (fun _ _ _ h => h) (Or.inl ⟨by kernel_rfl, fun w _ => by kernel_rfl⟩) hd2 ?_
          change wpAnyH _ _ _ _ _ _ _ (Act.put _ (some 84) (.bool false)) _
          simp only [Act.put, List.setIfInBounds_toArray, List.set_cons_zero, List.set_cons_succ]
          refine wpAnyH_take (i := 30) (v := .slice (some ⟨g, 0, none⟩) zs.length cx) rfl (by kernel_rfl) (by kernel_rfl) (by kernel_rfl) (fun _ _ _ h => h) (Or.inl ⟨by kernel_rfl, fun w _ => by kernel_rfl⟩) hd2 ?_
          change wpAnyH _ _ _ _ _ _ _ (Act.put _ (some 85) (.slice (some ⟨g, 0, none⟩) zs.length cx)) _
          simp only [Act.put, List.setIfInBounds_toArray, List.set_cons_zero, List.set_cons_succ]
          refine wpAnyH_take (i := 31) (v := .int .i64 ((k : Int) + 1)) rfl (by kernel_rfl) (by kernel_rfl) (by kernel_rfl) (fun _ _ _ h => h) (Or.inl ⟨by kernel_rfl, fun w _ => by kernel_rfl⟩) hd2 ?_
          change wpAnyH _ _ _ _ _ _ _ (Act.put _ (some 86) (.int .i64 ((k : Int) + 1))) _
          simp only [Act.put, List.setIfInBounds_toArray, List.set_cons_zero, List.set_cons_succ]
          refine wpAnyH_take (i := 32) (v := .pointer (some ⟨g, k + 1, none⟩)) rfl (by kernel_rfl) (by kernel_rfl) (by kernel_rfl) (fun _ _ _ h => h) (Or.inl ⟨by kernel_rfl, fun w hS => by go_simp⟩) hd2 ?_
          change wpAnyH _ _ _ _ _ _ _ (Act.put _ (some 87) (.pointer (some ⟨g, k + 1, none⟩))) _
          simp only [Act.put, List.setIfInBounds_toArray, List.set_cons_zero, List.set_cons_succ]
          refine wpAnyH_take (i := 33) (v := .int .i64 y) rfl (by kernel_rfl) (by kernel_rfl) (by kernel_rfl) (fun _ _ _ h => h) (Or.inl ⟨by kernel_rfl, fun w hS => by have hS1 := hS.1; go_simp⟩) hd2 ?_
          change wpAnyH _ _ _ _ _ _ _ (Act.put _ (some 88) (.int .i64 y)) _
          simp only [Act.put, List.setIfInBounds_toArray, List.set_cons_zero, List.set_cons_succ]
          refine wpAnyH_take (i := 34) (v := .slice (some ⟨g, 0, none⟩) zs.length cx) rfl (by kernel_rfl) (by kernel_rfl) (by kernel_rfl) (fun _ _ _ h => h) (Or.inl ⟨by kernel_rfl, fun w _ => by kernel_rfl⟩) hd2 ?_
          change wpAnyH _ _ _ _ _ _ _ (Act.put _ (some 89) (.slice (some ⟨g, 0, none⟩) zs.length cx)) _
          simp only [Act.put, List.setIfInBounds_toArray, List.set_cons_zero, List.set_cons_succ]
          refine wpAnyH_take (i := 35) (v := .pointer (some ⟨g, 0, none⟩)) rfl (by kernel_rfl) (by kernel_rfl) (by kernel_rfl) (fun _ _ _ h => h) (Or.inl ⟨by kernel_rfl, fun w hS => by go_simp⟩) hd2 ?_
          change wpAnyH _ _ _ _ _ _ _ (Act.put _ (some 90) (.pointer (some ⟨g, 0, none⟩))) _
          simp only [Act.put, List.setIfInBounds_toArray, List.set_cons_zero, List.set_cons_succ]
          refine wpAnyH_take (i := 36) (v := .int .i64 y0) rfl (by kernel_rfl) (by kernel_rfl) (by kernel_rfl) (fun _ _ _ h => h) (Or.inl ⟨by kernel_rfl, fun w hS => by have hS1 := hS.2.2; go_simp⟩) hd2 ?_
          change wpAnyH _ _ _ _ _ _ _ (Act.put _ (some 91) (.int .i64 y0)) _
          simp only [Act.put, List.setIfInBounds_toArray, List.set_cons_zero, List.set_cons_succ]
          refine wpAnyH_take (i := 37) (v := .int .i64 z) rfl (by kernel_rfl) (by kernel_rfl) (by kernel_rfl) (fun _ _ _ h => h) (Or.inl ⟨by kernel_rfl, fun w hS => by go_simp⟩) hd2 ?_
          change wpAnyH _ _ _ _ _ _ _ (Act.put _ (some 92) (.int .i64 z)) _
          simp only [Act.put, List.setIfInBounds_toArray, List.set_cons_zero, List.set_cons_succ]
          refine wpAnyH_ready (rs := [38]) (by kernel_rfl) (by simp) ?_
          refine AllReadyH.cons rfl (fun K hK => ?_) AllReadyH.nil
          go_simp
          go_at_call 16
          refine (iOctadIn_calls z _ (hT.below (by first | exact HB5.out | exact below_drewN HB5.out _ | exact HB5.out.drew | exact (below_drewN HB5.out _).drew | exact below_drewN (below_drewN HB5.out _) _ | exact below_drewN HB5.out.drew _) hT.lt)).mono ?_
          rintro e w6 ⟨he, b6⟩
          rw [HOZ.out] at he
          subst he
          have HO6 := Lib.hid (Own.below (by exact HO5.out) b6)
          have HB6 := Lib.hid (Below.trans (by first | exact HB5.out | exact below_drewN HB5.out _ | exact HB5.out.drew | exact (below_drewN HB5.out _).drew | exact below_drewN (below_drewN HB5.out _) _ | exact below_drewN HB5.out.drew _) (b6.mono (Below.size (by first | exact HB5.out | exact below_drewN HB5.out _ | exact HB5.out.drew | exact (below_drewN HB5.out _).drew | exact below_drewN (below_drewN HB5.out _) _ | exact below_drewN HB5.out.drew _))))
          have he0 := HO6.out.cell (j := k + 1) hlt
          have he1 := HO6.out.cell (j := k) (by omega)
          have he2 := HO6.out.cell (j := 0) (by omega)
          rw [HY.out] at he0
          rw [HY1.out] at he1
          rw [HY0.out] at he2
          have hd2 := And.intro he0 (And.intro he1 he2)
          refine hK.out _ _ hd2 (fun _ => ?_)
          refine wpAnyH_take (i := 39) (v := .bool false) rfl (by kernel_rfl) (by kernel_rfl) (by kernel_rfl) (fun _ _ _ h => h) (Or.inl ⟨by kernel_rfl, fun w _ => by kernel_rfl⟩) hd2 ?_
          change wpAnyH _ _ _ _ _ _ _ (Act.put _ (some 94) (.bool false)) _
          simp only [Act.put, List.setIfInBounds_toArray, List.set_cons_zero, List.set_cons_succ]
          refine wpAnyH_take (i := 40) (v := .bool false) rfl (by kernel_rfl) (by kernel_rfl) (by kernel_rfl) (fun _ _ _ h => h) (Or.inl ⟨by kernel_rfl, fun w _ => by kernel_rfl⟩) hd2 ?_
          change wpAnyH _ _ _ _ _ _ _ (Act.put _ (some 95) (.bool false)) _
          simp only [Act.put, List.setIfInBounds_toArray, List.set_cons_zero, List.set_cons_succ]
          refine wpAnyH_take (i := 41) (v := .bool false) rfl (by kernel_rfl) (by kernel_rfl) (by kernel_rfl) (fun _ _ _ h => h) (Or.inl ⟨by kernel_rfl, fun w _ => by kernel_rfl⟩) hd2 ?_
          change wpAnyH _ _ _ _ _ _ _ (Act.put _ (some 96) (.bool false)) _
          simp only [Act.put, List.setIfInBounds_toArray, List.set_cons_zero, List.set_cons_succ]
          refine wpAnyH_take (i := 42) (v := .bool false) rfl (by kernel_rfl) (by kernel_rfl) (by kernel_rfl) (fun _ _ _ h => h) (Or.inl ⟨by kernel_rfl, fun w _ => by kernel_rfl⟩) hd2 ?_
          change wpAnyH _ _ _ _ _ _ _ (Act.put _ (some 97) (.bool false)) _
          simp only [Act.put, List.setIfInBounds_toArray, List.set_cons_zero, List.set_cons_succ]
          refine wpAnyH_done (by kernel_rfl) ?_ _
          obtain ⟨hcell, _, _⟩ := hd2
          rcases f1 with _ | _
          · rw [Bool.false_or] at HF
            by_cases hya : y = a
            · subst hya
              have hf2 : f2 = true := by rw [HF.out]; simp
              clear HF
              go_wp2_with fail
              go_roundw
              case rel => first | exact ⟨k + 1 + 1, by omega, by go_num, by rw [HSN.out], by rw [HF2.out, hf2], HO6, HB6⟩ | exact ⟨k + 1 + 1, by omega, by go_num, by rw [HSN.out], by rw [HF2.out, hf2], Lib.hid (HO6.out.drewN _), Lib.hid (below_drewN HB6.out _)⟩
              case measure => simp [intOf]; omega
            · have hf2 : f2 = false := by rw [HF.out]; simpa using hya
              have hya1 : (y == a) = false := by simpa using hya
              clear HF hya
              go_wp2_with fail
              go_roundw
              case rel => first | exact ⟨k + 1 + 1, by omega, by go_num, by rw [HSN.out], by rw [HF2.out, hf2], HO6, HB6⟩ | exact ⟨k + 1 + 1, by omega, by go_num, by rw [HSN.out], by rw [HF2.out, hf2], Lib.hid (HO6.out.drewN _), Lib.hid (below_drewN HB6.out _)⟩
              case measure => simp [intOf]; omega
          · have hf2 : f2 = true := by rw [HF.out]; rfl
            clear HF
            go_wp2_with fail
            go_roundw
            case rel => first | exact ⟨k + 1 + 1, by omega, by go_num, by rw [HSN.out], by rw [HF2.out, hf2], HO6, HB6⟩ | exact ⟨k + 1 + 1, by omega, by go_num, by rw [HSN.out], by rw [HF2.out, hf2], Lib.hid (HO6.out.drewN _), Lib.hid (below_drewN HB6.out _)⟩
            case measure => simp [intOf]; omega
      · obtain rfl : k = 6 := by omega
        obtain ⟨g, rfl, _, _⟩ := own_at ho.out (by rw [HL.out]; decide)
        have hc5 := ho.out.cell (j := 5) (by rw [HL.out]; decide)
        have HS5 := Lib.hid (HK1.out 5 (by omega)).2.2.2.2
        generalize zs.getD 5 0 = y at *
        rw [HALL.out, HFA.out]
        go_wp2_with fail
        refine (iSextetOf_calls y _ (hT.below hbl.out hT.lt).2).mono ?_
        rintro e w5 ⟨v5, he, o5, b5⟩
        rw [HS5.out] at he o5
        dsimp only at he o5
        subst he
        obtain ⟨A5, c5, rfl⟩ := o5.slice
        have HO5 := Lib.hid o5
        have HOA := Lib.hid (ho.out.below b5)
        have HB5 := Lib.hid (hbl.out.trans (b5.mono hbl.out.size))
        clear o5 b5
        go_wp2_with fail
        refine (sameInts_calls _ _ _ _ zs zs _ HO5.out.rds HOA.out.rds HO5.out.len_le HOA.out.len_le).mono ?_
        rintro e w' ⟨he, k5, rfl⟩
        rw [eqL_refl] at he
        subst he
        have HB6 := Lib.hid (below_drewN HB5.out k5)
        go_wp2_with fail
        go_ret
        exact ⟨rfl, HB6.out⟩
end Go.Proofs.YtagniijhbiglaaaDoor
