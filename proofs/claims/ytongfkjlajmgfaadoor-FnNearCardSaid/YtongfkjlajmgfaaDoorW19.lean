/- The walk of promise 25. -/
import Derived.Test.YtongfkjlajmgfaaDoorW18
namespace Go.Proofs.YtongfkjlajmgfaaDoor
open Go.RowKit
set_option linter.unusedVariables false

set_option maxRecDepth 100000 in
set_option maxHeartbeats 4000000 in
theorem walk_FnNear (a0 : Option Addr) (len0 cap0 : Nat) (z0 : List Int) (w : World) (w0 : IsRow .u8 w a0 len0 cap0 z0) (hT : Tab3 w) :
    Calls Tryd.prog 4 #[.slice a0 len0 cap0] w fun e w' => e = .returned (.bool true) ∧ Below w.heap.size w w' := by
  obtain ⟨bs, rfl, hr, hc, hm, hv⟩ := w0.bytes
  have hm' := hm
  unfold maxLen at hm'
  by_cases hbig : 1048576 < bs.length
  · go_enter Tryd.func4, Tryd.ntmps4
    go_wp2_with fail
    go_ret
    exact ⟨rfl, Below.refl _ _⟩
  have hbig' : bs.length ≤ 1048576 := by omega
  clear hbig
  go_enter Tryd.func4, Tryd.ntmps4
  go_wp2_with fail
  refine (DrawCodeNear_calls _ _ bs _ hr hc hm hv).mono ?_
  rintro e w1 ⟨a, rfl, a0, a1, b1⟩
  have B0 := Lib.hid (b1)
  rcases hb : wordB a with _ | _
  · have H := Lib.hid (show cNear a = ([], false) by simp [cNear, hb])
    clear hb
    go_wp2_with fail
    refine (iCodeNear_calls a _ (hT.below (B0.out) hT.lt).2).mono ?_
    rintro e w1_ ⟨v1_, he, o1_, b1_⟩
    rw [H.out] at he o1_
    dsimp only at he o1_
    subst he
    obtain ⟨Ax, cx, rfl⟩ := o1_.slice
    have B1 := Lib.hid ((B0.out).trans (b1_.mono (B0.out).size))
    have Ox1 := Lib.hid (o1_.weak (B0.out).size)
    go_wp2_with fail
    refine (sCodeNear_calls a _).mono ?_
    rintro e w2_ ⟨v2_, he, o2_, b2_⟩
    rw [H.out] at he o2_
    dsimp only at he o2_
    subst he
    obtain ⟨Ay, cy, rfl⟩ := o2_.slice
    have B2 := Lib.hid ((B1.out).trans (b2_.mono (B1.out).size))
    have Ox2 := Lib.hid ((Ox1.out).below b2_)
    have Oy2 := Lib.hid (o2_.weak (B1.out).size)
    go_wp2_with fail
    refine (sameInts_calls _ _ _ _ [] [] _ (Ox2.out).rds (Oy2.out).rds (Ox2.out).len_le (Oy2.out).len_le).mono ?_
    rintro e w' ⟨he, k3_, rfl⟩
    rw [eqL_refl] at he
    subst he
    have B3 := Lib.hid (below_drewN (B2.out) k3_)
    have Ox3 := Lib.hid ((Ox2.out).drewN k3_)
    have Oy3 := Lib.hid ((Oy2.out).drewN k3_)
    go_wp2_with fail
    refine (sameInts_calls _ _ _ _ [] [] _ (Ox3.out).rds (Oy3.out).rds (Ox3.out).len_le (Oy3.out).len_le).mono ?_
    rintro e w' ⟨he, k4_, rfl⟩
    rw [eqL_refl] at he
    subst he
    have B4 := Lib.hid (below_drewN (B3.out) k4_)
    have Ox4 := Lib.hid ((Ox3.out).drewN k4_)
    have Oy4 := Lib.hid ((Oy3.out).drewN k4_)
    go_wp2_with fail
    go_ret
    first | exact ⟨rfl, B4.out⟩ | exact ⟨rfl, by have hB := B4.out; simp only [World.drewN_drewN] at hB; exact hB⟩
  · have hw := isW_of2 hb
    have H := Lib.hid (cNear_yes hw)
    have H2 := Lib.hid (cFar_yes hw)
    have hll := nearL_len a hw.1 hw.2
    have HAT := Lib.hid (nearL_at a)
    have HASC := Lib.hid (nearL_is a).1
    have hfr := far_range a hw.1 hw.2
    generalize nearL a = xs at *
    generalize farI a = f at *
    clear hb
    go_wp2_with fail
    refine (iCodeNear_calls a _ (hT.below (B0.out) hT.lt).2).mono ?_
    rintro e w1_ ⟨v1_, he, o1_, b1_⟩
    rw [H.out] at he o1_
    dsimp only at he o1_
    subst he
    obtain ⟨Ax, cx, rfl⟩ := o1_.slice
    have B1 := Lib.hid ((B0.out).trans (b1_.mono (B0.out).size))
    have Ox1 := Lib.hid (o1_.weak (B0.out).size)
    go_wp2_with fail
    refine (sCodeNear_calls a _).mono ?_
    rintro e w2_ ⟨v2_, he, o2_, b2_⟩
    rw [H.out] at he o2_
    dsimp only at he o2_
    subst he
    obtain ⟨Ay, cy, rfl⟩ := o2_.slice
    have B2 := Lib.hid ((B1.out).trans (b2_.mono (B1.out).size))
    have Ox2 := Lib.hid ((Ox1.out).below b2_)
    have Oy2 := Lib.hid (o2_.weak (B1.out).size)
    go_wp2_with fail
    refine (sameInts_calls _ _ _ _ xs xs _ (Ox2.out).rds (Oy2.out).rds (Ox2.out).len_le (Oy2.out).len_le).mono ?_
    rintro e w' ⟨he, k3_, rfl⟩
    rw [eqL_refl] at he
    subst he
    have B3 := Lib.hid (below_drewN (B2.out) k3_)
    have Ox3 := Lib.hid ((Ox2.out).drewN k3_)
    have Oy3 := Lib.hid ((Oy2.out).drewN k3_)
    go_wp2_with fail
    refine (iCodeFar_calls a _ (hT.below (B3.out) hT.lt).2).mono ?_
    rintro e w4_ ⟨he, b4_⟩
    rw [H2.out] at he
    subst he
    have B4 := Lib.hid ((B3.out).trans (b4_.mono (B3.out).size))
    have Ox4 := Lib.hid ((Ox3.out).below b4_)
    have Oy4 := Lib.hid ((Oy3.out).below b4_)
    obtain ⟨g, rfl, _, _⟩ := own_at (Ox4.out) (by omega)
    have HX := Lib.hid (Ox4.out)
    have HBZ := Lib.hid (B4.out)
    go_wp2_with fail
    go_loopw [9] (fun i wr => ∃ k : Nat, k ≤ xs.length ∧ i = .int .i64 k ∧ Hid (Own wr w.heap.size (.slice (some ⟨g, 0, none⟩) xs.length cx) xs) ∧ Hid (Below w.heap.size w wr)) (fun i _ => xs.length - (intOf i).toNat)
    case atStart => exact ⟨0, by omega, rfl, HX, HBZ⟩
    case round =>
      obtain ⟨k, hk, rfl, ho, hbl⟩ := hrel
      by_cases hlt : k < xs.length
      · obtain ⟨m, hm, hcm, hdm⟩ := HAT.out k hlt
        have hc0 := ho.out.cell (j := k) hlt
        have hxw : IsW (xs.getD k 0) := by rw [← hcm]; exact codeOf_w2 m
        have HA := Lib.hid (fun w => iWordAdd_ok (xs.getD k 0) a w hxw hw)
        have hdw : wt (xorI (xs.getD k 0) a) = f := by rw [← hcm]; exact hdm
        have HWE := Lib.hid (fun w => by have := iWordWeight_ok (xorI (xs.getD k 0) a) w (xorI_w2 hxw hw); rwa [hdw] at this)
        have HIN := Lib.hid (show cIn (xs.getD k 0) = true by rw [cIn_yes2 hxw, ← hcm]; exact (code_in m).1)
        clear hdw hm hcm hdm hxw
        rcases k with _ | k
        · obtain ⟨y, hy⟩ : ∃ y, xs.getD 0 0 = y := ⟨_, rfl⟩
          rw [hy] at hc0 HA HWE HIN
          have HY := Lib.hid hy
          clear hy
          generalize xorI y a = z at *
          go_wp2_with fail
          refine (HA.out _).mono ?_
          rintro e w' ⟨rfl, rfl⟩
          go_wp2_with fail
          go_region_with (first
              | (go_at_call 16; refine (HWE.out _).mono ?_; rintro e w' ⟨rfl, q, rfl⟩)
              | (go_at_call 15; refine (iCodeIn_calls y _ (hT.below (by first | exact hbl.out | exact below_drewN hbl.out _ | exact (below_drewN hbl.out _).drew | exact hbl.out.drew) hT.lt)).mono ?_; rintro e w5 ⟨he, b5⟩; rw [HIN.out] at he; subst he; have HO5 := Lib.hid (Own.below (by exact ho.out) b5); have HB5 := Lib.hid (Below.trans (by first | exact hbl.out | exact below_drewN hbl.out _ | exact (below_drewN hbl.out _).drew | exact hbl.out.drew) (b5.mono (Below.size (by first | exact hbl.out | exact below_drewN hbl.out _ | exact (below_drewN hbl.out _).drew | exact hbl.out.drew)))); rename_i KK hKK; refine hKK _ _ ?_; refine wpAny_take (i := 14) (v := .bool false) rfl (by kernel_rfl) (by kernel_rfl) (by kernel_rfl) (fun _ _ _ h => h) (Or.inl ⟨by kernel_rfl, fun w => by kernel_rfl⟩) ?_; change wpAny _ _ _ _ _ _ (Act.put _ (some 79) (.bool false)) _; refine wpAny_take (i := 15) (v := .bool false) rfl (by kernel_rfl) (by kernel_rfl) (by kernel_rfl) (fun _ _ _ h => h) (Or.inl ⟨by kernel_rfl, fun w => by kernel_rfl⟩) ?_; change wpAny _ _ _ _ _ _ (Act.put _ (some 80) (.bool false)) _; refine wpAny_take (i := 16) (v := .bool false) rfl (by kernel_rfl) (by kernel_rfl) (by kernel_rfl) (fun _ _ _ h => h) (Or.inl ⟨by kernel_rfl, fun w => by kernel_rfl⟩) ?_; change wpAny _ _ _ _ _ _ (Act.put _ (some 81) (.bool false)) _; refine wpAny_take (i := 17) (v := .int .i64 0) rfl (by kernel_rfl) (by kernel_rfl) (by kernel_rfl) (fun _ _ _ h => h) (Or.inl ⟨by kernel_rfl, fun w => by kernel_rfl⟩) ?_; change wpAny _ _ _ _ _ _ (Act.put _ (some 82) (.int .i64 0)) _; refine wpAny_take (i := 18) (v := .bool false) rfl (by kernel_rfl) (by kernel_rfl) (by kernel_rfl) (fun _ _ _ h => h) (Or.inl ⟨by kernel_rfl, fun w => by kernel_rfl⟩) ?_; change wpAny _ _ _ _ _ _ (Act.put _ (some 83) (.bool false)) _; refine wpAny_take (i := 19) (v := .bool false) rfl (by kernel_rfl) (by kernel_rfl) (by kernel_rfl) (fun _ _ _ h => h) (Or.inl ⟨by kernel_rfl, fun w => by kernel_rfl⟩) ?_; change wpAny _ _ _ _ _ _ (Act.put _ (some 84) (.bool false)) _; refine wpAny_take (i := 20) (v := undef) rfl (by kernel_rfl) (by kernel_rfl) (by kernel_rfl) (fun _ _ _ h => h) (Or.inr ⟨by kernel_rfl, rfl⟩) ?_; change wpAny _ _ _ _ _ _ (Act.put _ (some 85) (undef)) _; refine wpAny_take (i := 21) (v := undef) rfl (by kernel_rfl) (by kernel_rfl) (by kernel_rfl) (fun _ _ _ h => h) (Or.inr ⟨by kernel_rfl, rfl⟩) ?_; change wpAny _ _ _ _ _ _ (Act.put _ (some 86) (undef)) _; refine wpAny_take (i := 22) (v := undef) rfl (by kernel_rfl) (by kernel_rfl) (by kernel_rfl) (fun _ _ _ h => h) (Or.inr ⟨by kernel_rfl, rfl⟩) ?_; change wpAny _ _ _ _ _ _ (Act.put _ (some 87) (undef)) _; refine wpAny_take (i := 23) (v := undef) rfl (by kernel_rfl) (by kernel_rfl) (by kernel_rfl) (fun _ _ _ h => h) (Or.inr ⟨by kernel_rfl, rfl⟩) ?_; change wpAny _ _ _ _ _ _ (Act.put _ (some 88) (undef)) _; refine wpAny_take (i := 24) (v := undef) rfl (by kernel_rfl) (by kernel_rfl) (by kernel_rfl) (fun _ _ _ h => h) (Or.inr ⟨by kernel_rfl, rfl⟩) ?_; change wpAny _ _ _ _ _ _ (Act.put _ (some 89) (undef)) _; refine wpAny_take (i := 25) (v := undef) rfl (by kernel_rfl) (by kernel_rfl) (by kernel_rfl) (fun _ _ _ h => h) (Or.inr ⟨by kernel_rfl, rfl⟩) ?_; change wpAny _ _ _ _ _ _ (Act.put _ (some 90) (undef)) _; refine wpAny_take (i := 26) (v := undef) rfl (by kernel_rfl) (by kernel_rfl) (by kernel_rfl) (fun _ _ _ h => h) (Or.inr ⟨by kernel_rfl, rfl⟩) ?_; change wpAny _ _ _ _ _ _ (Act.put _ (some 91) (undef)) _; refine wpAny_take (i := 27) (v := undef) rfl (by kernel_rfl) (by kernel_rfl) (by kernel_rfl) (fun _ _ _ h => h) (Or.inr ⟨by kernel_rfl, rfl⟩) ?_; change wpAny _ _ _ _ _ _ (Act.put _ (some 92) (undef)) _; refine wpAny_take (i := 28) (v := undef) rfl (by kernel_rfl) (by kernel_rfl) (by kernel_rfl) (fun _ _ _ h => h) (Or.inr ⟨by kernel_rfl, rfl⟩) ?_; change wpAny _ _ _ _ _ _ (Act.put _ (some 93) (undef)) _; refine wpAny_take (i := 29) (v := undef) rfl (by kernel_rfl) (by kernel_rfl) (by kernel_rfl) (fun _ _ _ h => h) (Or.inr ⟨by kernel_rfl, rfl⟩) ?_; change wpAny _ _ _ _ _ _ (Act.put _ (some 94) (undef)) _; refine wpAny_take (i := 30) (v := .bool false) rfl (by kernel_rfl) (by kernel_rfl) (by kernel_rfl) (fun _ _ _ h => h) (Or.inl ⟨by kernel_rfl, fun w => by kernel_rfl⟩) ?_; change wpAny _ _ _ _ _ _ (Act.put _ (some 95) (.bool false)) _))
          all_goals
            go_simp
            go_wp2_with fail
            go_roundw
            case rel => first | exact ⟨0 + 1, by omega, by go_num, HO5, HB5⟩ | exact ⟨0 + 1, by omega, by go_num, HO5, Lib.hid (HB5.out.drew)⟩ | exact ⟨0 + 1, by omega, by go_num, HO5, Lib.hid (below_drewN HB5.out _)⟩
            case measure => simp [intOf]; omega
        · have hkp : (0 : Int) < (k : Int) + 1 := by omega
          have hk0 : (0 : Int) ≤ (k : Int) := by omega
          have hk1 : (k : Int) < (xs.length : Int) := by omega
          have hk2 : (k : Int) + 1 < (xs.length : Int) := by omega
          have hk3 : (0 : Int) ≤ (k : Int) + 1 := by omega
          have hwk : IntKind.i64.wrap (k : Int) = (k : Int) := by rw [IntKind.wrap_i64]; omega
          have hwk1 : IntKind.i64.wrap ((k : Int) + 1 - 1) = (k : Int) := by rw [IntKind.wrap_i64]; omega
          have hlt2 : xs.getD k 0 < xs.getD (k + 1) 0 := asc_get HASC.out (by omega) hlt
          have hc1 := ho.out.cell (j := k) (by omega)
          obtain ⟨y, hy⟩ : ∃ y, xs.getD (k + 1) 0 = y := ⟨_, rfl⟩
          obtain ⟨y1, hy1⟩ : ∃ y1, xs.getD k 0 = y1 := ⟨_, rfl⟩
          rw [hy] at hc0 HA HWE HIN hlt2
          rw [hy1] at hc1 hlt2
          have HY := Lib.hid hy
          have HY1 := Lib.hid hy1
          clear hy hy1
          generalize xorI y a = z at *
          go_wp2_with fail
          refine (HA.out _).mono ?_
          rintro e w' ⟨rfl, rfl⟩
          go_wp2_with fail
          go_region_held3 (fun w' => w'.cell? ⟨g, k + 1, none⟩ = some (.int .i64 y) ∧ w'.cell? ⟨g, k, none⟩ = some (.int .i64 y1))
            (first | go_keep | exact ⟨hd0, hd1⟩)
            (first
              | (go_at_call 16; refine (HWE.out _).mono ?_; rintro e w' ⟨rfl, q, rfl⟩)
              | (go_at_call 15; refine (iCodeIn_calls y _ (hT.below (by first | exact hbl.out | exact below_drewN hbl.out _ | exact (below_drewN hbl.out _).drew | exact hbl.out.drew) hT.lt)).mono ?_; rintro e w5 ⟨he, b5⟩; rw [HIN.out] at he; subst he; have HO5 := Lib.hid (Own.below (by exact ho.out) b5); have HB5 := Lib.hid (Below.trans (by first | exact hbl.out | exact below_drewN hbl.out _ | exact (below_drewN hbl.out _).drew | exact hbl.out.drew) (b5.mono (Below.size (by first | exact hbl.out | exact below_drewN hbl.out _ | exact (below_drewN hbl.out _).drew | exact hbl.out.drew)))); have hd0 := HO5.out.cell (j := k + 1) hlt; have hd1 := HO5.out.cell (j := k) (by omega); rw [HY.out] at hd0; rw [HY1.out] at hd1))
          all_goals
            go_wp2_with fail
            go_roundw
            case rel => first | exact ⟨k + 1 + 1, by omega, by go_num, HO5, HB5⟩ | exact ⟨k + 1 + 1, by omega, by go_num, HO5, Lib.hid (HB5.out.drew)⟩ | exact ⟨k + 1 + 1, by omega, by go_num, HO5, Lib.hid (below_drewN HB5.out _)⟩
            case measure => simp [intOf]; omega
      · obtain rfl : k = xs.length := by omega
        rcases hll with ⟨rfl, hl⟩ | ⟨hf4, hl⟩
        · rw [hl]
          go_wp2_with fail
          go_ret
          exact ⟨rfl, hbl.out⟩
        · rw [hl]
          have hf44 : (f == 4) = false := by simp; omega
          go_wp2_with fail
          go_ret
          exact ⟨rfl, hbl.out⟩
end Go.Proofs.YtongfkjlajmgfaaDoor
