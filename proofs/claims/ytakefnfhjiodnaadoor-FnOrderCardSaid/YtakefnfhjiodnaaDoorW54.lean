/- The walk of promise 57. -/
import Derived.Test.YtakefnfhjiodnaaDoorC119
import Derived.Test.YtakefnfhjiodnaaDoorC109
import Derived.Test.YtakefnfhjiodnaaDoorC115
import Derived.Test.YtakefnfhjiodnaaDoorC116
import Derived.Test.YtakefnfhjiodnaaDoorM33
import Derived.Test.YtakefnfhjiodnaaDoorQ3
import Derived.Test.YtakefnfhjiodnaaDoorW8
namespace Go.Proofs.YtakefnfhjiodnaaDoor
open Go.RowKit
set_option linter.unusedVariables false
attribute [local irreducible] cN syn

theorem dvd_known (n d : Nat) (h : n ∈ ordersL) (hd : d ∣ n) : 1 ≤ d ∧ (d ≤ 8 ∨ d = 10 ∨ d = 11 ∨ d = 12 ∨ d = 14 ∨ d = 15 ∨ d = 21 ∨ d = 23) := by
  have H : ∀ n ∈ ordersL, ∀ d : Fin 24, d.val ∣ n → 1 ≤ d.val ∧ (d.val ≤ 8 ∨ d.val = 10 ∨ d.val = 11 ∨ d.val = 12 ∨ d.val = 14 ∨ d.val = 15 ∨ d.val = 21 ∨ d.val = 23) := by decide
  have hn : 0 < n ∧ n ≤ 23 := by
    have : ∀ n ∈ ordersL, 0 < n ∧ n ≤ 23 := by decide
    exact this n h
  have := Nat.le_of_dvd hn.1 hd
  exact H n h ⟨d, by omega⟩ hd
theorem order_facts {xs : List Int} (h : permB xs = true) : ∃ (M : Int) (cs : List Int), plOrder xs = (M, true) ∧ plCycles xs = (cs, true) ∧ cs.length ≤ 24 ∧ (∀ k, k < cs.length → 1 ≤ cs.getD k 0 ∧ cs.getD k 0 ≤ 24 ∧ M.tmod (cs.getD k 0) = 0) ∧ 1 ≤ M ∧ M ≤ 16777216 ∧ (keepsB xs = true → M ≤ 8 ∨ M = 10 ∨ M = 11 ∨ M = 12 ∨ M = 14 ∨ M = 15 ∨ M = 21 ∨ M = 23) := by
  obtain ⟨hP, e⟩ := permB_perm h
  obtain ⟨L, hL, hLn, hLm, hLr⟩ := cyc_nat h
  obtain ⟨r1, r2⟩ := ordP_rng hP
  refine ⟨_, intP L, plOrder_ord h, by simp [plCycles, h, hL], by rw [intP_len]; exact hLn, ?_, by omega, by omega, ?_⟩
  · intro k hk
    rw [intP_len] at hk
    rw [intP_get]
    have hm : L.getD k 0 ∈ L := by rw [show L.getD k 0 = L[k] by simp [hk]]; exact List.getElem_mem hk
    obtain ⟨c1, c2⟩ := hLr _ hm
    have hd : L.getD k 0 ∣ ordP (natP xs) := (lcmL_dvd (L := rawC (natP xs))).1 (Nat.dvd_refl _) _ ((hLm _).1 hm)
    generalize L.getD k 0 = c at *
    generalize ordP (natP xs) = n at *
    refine ⟨by omega, by omega, ?_⟩
    rw [Int.tmod_eq_emod_of_nonneg (by omega)]
    have := Nat.mod_eq_zero_of_dvd hd
    omega
  · intro hk
    obtain ⟨n, hn, hi⟩ := keeps_ord hP ((keepsB_iff h).1 hk)
    have := dvd_known n _ hn ((ordP_dvd hP n).2 hi)
    omega
set_option maxHeartbeats 4000000 in
theorem walk_FnOrder (a0 : Option Addr) (len0 cap0 : Nat) (z0 : List Int) (w : World) (w0 : IsRow .u8 w a0 len0 cap0 z0) (hT : Tab3 w) :
    Calls Tryd.prog 7 #[.slice a0 len0 cap0] w fun e w' => e = .returned (.bool true) ∧ Below w.heap.size w w' := by
  obtain ⟨bs, rfl, hr, hc, hm, hv⟩ := w0.bytes
  have hm' := hm
  unfold maxLen at hm'
  by_cases hbig : 1048576 < bs.length
  · go_enter Tryd.func7, Tryd.ntmps7
    go_wp2_with fail
    go_ret
    exact ⟨rfl, Below.refl _ _⟩
  have hbig' : bs.length ≤ 1048576 := by omega
  clear hbig
  go_enter Tryd.func7, Tryd.ntmps7
  go_wp2_with fail
  refine (DrawPermOrder_calls _ _ bs _ hr hc hm hv).mono ?_
  rintro e w1 ⟨v, xs, rfl, o1, hl, b1⟩
  obtain ⟨Aa, ca, rfl⟩ := o1.slice
  have B0 := Lib.hid (b1)
  have Oa0 := Lib.hid (o1)
  rcases hb : permB xs with _ | _
  · have H := Lib.hid (show plOrder xs = (0, false) by simp [plOrder, hb])
    clear hb
    go_wp2_with fail
    refine (iPermOrder_calls Aa ca xs _ (Oa0.out).rds (Oa0.out).len_le).mono ?_
    rintro e w1_ ⟨he, b1_⟩
    rw [H.out] at he
    dsimp only at he
    subst he
    have B1 := Lib.hid ((B0.out).trans (b1_.mono (B0.out).size))
    have Oa1 := Lib.hid ((Oa0.out).below b1_)
    go_wp2_with fail
    refine (sPermOrder_calls Aa ca xs _ (Oa1.out).rds (Oa1.out).len_le).mono ?_
    rintro e w2_ ⟨he, b2_⟩
    rw [H.out] at he
    dsimp only at he
    subst he
    have B2 := Lib.hid ((B1.out).trans (b2_.mono (B1.out).size))
    have Oa2 := Lib.hid ((Oa1.out).below b2_)
    go_wp2_with fail
    go_ret
    first | exact ⟨rfl, B2.out⟩ | exact ⟨rfl, by have hB := B2.out; simp only [World.drewN_drewN] at hB; exact hB⟩
  · obtain ⟨M, cs, f1, f2, f3, f4, m1, m2, f5⟩ := order_facts hb
    have F1 := Lib.hid f1
    have F2 := Lib.hid f2
    have F3 := Lib.hid f3
    have F4 := Lib.hid f4
    have F5 := Lib.hid f5
    clear hb f1 f2 f3 f4 f5
    go_wp2_with fail
    refine (iPermOrder_calls Aa ca xs _ (Oa0.out).rds (Oa0.out).len_le).mono ?_
    rintro e w1_ ⟨he, b1_⟩
    rw [F1.out] at he
    dsimp only at he
    subst he
    have B1 := Lib.hid ((B0.out).trans (b1_.mono (B0.out).size))
    have Oa1 := Lib.hid ((Oa0.out).below b1_)
    go_wp2_with fail
    refine (sPermOrder_calls Aa ca xs _ (Oa1.out).rds (Oa1.out).len_le).mono ?_
    rintro e w2_ ⟨he, b2_⟩
    rw [F1.out] at he
    dsimp only at he
    subst he
    have B2 := Lib.hid ((B1.out).trans (b2_.mono (B1.out).size))
    have Oa2 := Lib.hid ((Oa1.out).below b2_)
    go_wp2_with fail
    refine (iPermCycles_calls Aa ca xs _ (Oa2.out).rds (Oa2.out).len_le).mono ?_
    rintro e w3_ ⟨v3_, he, o3_, b3_⟩
    rw [F2.out] at he o3_
    dsimp only at he o3_
    subst he
    obtain ⟨Ax, cx, rfl⟩ := o3_.slice
    have B3 := Lib.hid ((B2.out).trans (b3_.mono (B2.out).size))
    have Oa3 := Lib.hid ((Oa2.out).below b3_)
    have Ox3 := Lib.hid (o3_.weak (B2.out).size)
    go_wp2_with fail
    go_loopw [10] (fun v wq => ∃ k : Nat, k ≤ cs.length ∧ v = .int .i64 k ∧ w3_ = wq) (fun v _ => cs.length - (intOf v).toNat)
    case atStart => exact ⟨0, by omega, rfl, rfl⟩
    case round =>
      obtain ⟨k, hk, rfl, hww⟩ := hrel
      subst hww
      by_cases hlt : k < cs.length
      · have hl3 := F3.out
        have hO := Ox3.out
        obtain ⟨g, hg, hgb, _⟩ := own_at hO (by omega : 0 < cs.length)
        rw [hg] at hO
        have hci := hO.cell hlt
        clear hO
        subst hg
        obtain ⟨c1, c2, c3⟩ := F4.out k hlt
        have hk0 : (0 : Int) ≤ (k : Int) := by omega
        generalize cs.getD k 0 = c at *
        have hcz : (c == 0) = false := by simp; omega
        have hcz2 : c ≠ 0 := by omega
        go_wp2_with fail
        go_roundw
        case rel => exact ⟨k + 1, by omega, by go_num, by first | exact rfl | trivial⟩
        case measure => simp [intOf]; omega
      · obtain rfl : k = cs.length := by omega
        rcases hkb : keepsB xs with _ | _
        · have HK := Lib.hid hkb
          clear hkb
          rcases (show (M ≤ 8) ∨ (M = 9) ∨ (10 ≤ M ∧ M ≤ 12) ∨ (M = 13) ∨ (M = 14) ∨ (M = 15) ∨ (16 ≤ M ∧ M ≤ 20) ∨ (M = 21) ∨ (M = 22) ∨ (M = 23) ∨ (24 ≤ M) by omega) with h | h | h | h | h | h | h | h | h | h | h
          · have e1 : M ≤ 8 := h
            go_wp2_with fail
            go_ret
            first | exact ⟨rfl, B3.out⟩ | exact ⟨rfl, by have hB := B3.out; simp only [World.drewN_drewN] at hB; exact hB⟩
          · subst h
            go_wp2_with fail
            refine (iPermKeeps_calls Aa ca xs _ (Oa3.out).rds (Oa3.out).len_le (hT.below (B3.out) hT.lt)).mono ?_
            rintro e w4_ ⟨he, b4_⟩
            rw [HK.out] at he
            subst he
            have B4 := Lib.hid ((B3.out).trans (b4_.mono (B3.out).size))
            have Oa4 := Lib.hid ((Oa3.out).below b4_)
            have Ox4 := Lib.hid ((Ox3.out).below b4_)
            go_wp2_with fail
            go_ret
            first | exact ⟨rfl, B4.out⟩ | exact ⟨rfl, by have hB := B4.out; simp only [World.drewN_drewN] at hB; exact hB⟩
          · obtain ⟨e1, e2⟩ := h
            have e3 : ¬ M ≤ 8 := by omega
            go_wp2_with fail
            go_ret
            first | exact ⟨rfl, B3.out⟩ | exact ⟨rfl, by have hB := B3.out; simp only [World.drewN_drewN] at hB; exact hB⟩
          · subst h
            go_wp2_with fail
            refine (iPermKeeps_calls Aa ca xs _ (Oa3.out).rds (Oa3.out).len_le (hT.below (B3.out) hT.lt)).mono ?_
            rintro e w4_ ⟨he, b4_⟩
            rw [HK.out] at he
            subst he
            have B4 := Lib.hid ((B3.out).trans (b4_.mono (B3.out).size))
            have Oa4 := Lib.hid ((Oa3.out).below b4_)
            have Ox4 := Lib.hid ((Ox3.out).below b4_)
            go_wp2_with fail
            go_ret
            first | exact ⟨rfl, B4.out⟩ | exact ⟨rfl, by have hB := B4.out; simp only [World.drewN_drewN] at hB; exact hB⟩
          · subst h
            go_wp2_with fail
            go_ret
            first | exact ⟨rfl, B3.out⟩ | exact ⟨rfl, by have hB := B3.out; simp only [World.drewN_drewN] at hB; exact hB⟩
          · subst h
            go_wp2_with fail
            go_ret
            first | exact ⟨rfl, B3.out⟩ | exact ⟨rfl, by have hB := B3.out; simp only [World.drewN_drewN] at hB; exact hB⟩
          · obtain ⟨e1, e2⟩ := h
            have e3 : ¬ M ≤ 8 := by omega
            have e4 : (10 : Int) ≤ M := by omega
            have e5 : ¬ M ≤ 12 := by omega
            have e6 : (M == 14) = false := by simp; omega
            have e7 : (M == 15) = false := by simp; omega
            have e8 : (M == 21) = false := by simp; omega
            have e9 : (M == 23) = false := by simp; omega
            go_wp2_with fail
            refine (iPermKeeps_calls Aa ca xs _ (Oa3.out).rds (Oa3.out).len_le (hT.below (B3.out) hT.lt)).mono ?_
            rintro e w4_ ⟨he, b4_⟩
            rw [HK.out] at he
            subst he
            have B4 := Lib.hid ((B3.out).trans (b4_.mono (B3.out).size))
            have Oa4 := Lib.hid ((Oa3.out).below b4_)
            have Ox4 := Lib.hid ((Ox3.out).below b4_)
            go_wp2_with fail
            go_ret
            first | exact ⟨rfl, B4.out⟩ | exact ⟨rfl, by have hB := B4.out; simp only [World.drewN_drewN] at hB; exact hB⟩
          · subst h
            go_wp2_with fail
            go_ret
            first | exact ⟨rfl, B3.out⟩ | exact ⟨rfl, by have hB := B3.out; simp only [World.drewN_drewN] at hB; exact hB⟩
          · subst h
            go_wp2_with fail
            refine (iPermKeeps_calls Aa ca xs _ (Oa3.out).rds (Oa3.out).len_le (hT.below (B3.out) hT.lt)).mono ?_
            rintro e w4_ ⟨he, b4_⟩
            rw [HK.out] at he
            subst he
            have B4 := Lib.hid ((B3.out).trans (b4_.mono (B3.out).size))
            have Oa4 := Lib.hid ((Oa3.out).below b4_)
            have Ox4 := Lib.hid ((Ox3.out).below b4_)
            go_wp2_with fail
            go_ret
            first | exact ⟨rfl, B4.out⟩ | exact ⟨rfl, by have hB := B4.out; simp only [World.drewN_drewN] at hB; exact hB⟩
          · subst h
            go_wp2_with fail
            go_ret
            first | exact ⟨rfl, B3.out⟩ | exact ⟨rfl, by have hB := B3.out; simp only [World.drewN_drewN] at hB; exact hB⟩
          · have e3 : ¬ M ≤ 8 := by omega
            have e4 : (10 : Int) ≤ M := by omega
            have e5 : ¬ M ≤ 12 := by omega
            have e6 : (M == 14) = false := by simp; omega
            have e7 : (M == 15) = false := by simp; omega
            have e8 : (M == 21) = false := by simp; omega
            have e9 : (M == 23) = false := by simp; omega
            go_wp2_with fail
            refine (iPermKeeps_calls Aa ca xs _ (Oa3.out).rds (Oa3.out).len_le (hT.below (B3.out) hT.lt)).mono ?_
            rintro e w4_ ⟨he, b4_⟩
            rw [HK.out] at he
            subst he
            have B4 := Lib.hid ((B3.out).trans (b4_.mono (B3.out).size))
            have Oa4 := Lib.hid ((Oa3.out).below b4_)
            have Ox4 := Lib.hid ((Ox3.out).below b4_)
            go_wp2_with fail
            go_ret
            first | exact ⟨rfl, B4.out⟩ | exact ⟨rfl, by have hB := B4.out; simp only [World.drewN_drewN] at hB; exact hB⟩
        · have hf := F5.out hkb
          clear hkb
          rcases (show (M ≤ 8) ∨ (10 ≤ M ∧ M ≤ 12) ∨ (M = 14) ∨ (M = 15) ∨ (M = 21) ∨ (M = 23) by omega) with h | h | h | h | h | h
          · clear hf
            have e1 : M ≤ 8 := h
            go_wp2_with fail
            go_ret
            first | exact ⟨rfl, B3.out⟩ | exact ⟨rfl, by have hB := B3.out; simp only [World.drewN_drewN] at hB; exact hB⟩
          · clear hf
            obtain ⟨e1, e2⟩ := h
            have e3 : ¬ M ≤ 8 := by omega
            go_wp2_with fail
            go_ret
            first | exact ⟨rfl, B3.out⟩ | exact ⟨rfl, by have hB := B3.out; simp only [World.drewN_drewN] at hB; exact hB⟩
          · clear hf
            subst h
            go_wp2_with fail
            go_ret
            first | exact ⟨rfl, B3.out⟩ | exact ⟨rfl, by have hB := B3.out; simp only [World.drewN_drewN] at hB; exact hB⟩
          · clear hf
            subst h
            go_wp2_with fail
            go_ret
            first | exact ⟨rfl, B3.out⟩ | exact ⟨rfl, by have hB := B3.out; simp only [World.drewN_drewN] at hB; exact hB⟩
          · clear hf
            subst h
            go_wp2_with fail
            go_ret
            first | exact ⟨rfl, B3.out⟩ | exact ⟨rfl, by have hB := B3.out; simp only [World.drewN_drewN] at hB; exact hB⟩
          · clear hf
            subst h
            go_wp2_with fail
            go_ret
            first | exact ⟨rfl, B3.out⟩ | exact ⟨rfl, by have hB := B3.out; simp only [World.drewN_drewN] at hB; exact hB⟩
end Go.Proofs.YtakefnfhjiodnaaDoor
