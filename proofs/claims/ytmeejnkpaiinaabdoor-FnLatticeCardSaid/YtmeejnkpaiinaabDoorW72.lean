/- The walks of promises 70 to 77. -/
import Derived.Test.YtmeejnkpaiinaabDoorC170
import Derived.Test.YtmeejnkpaiinaabDoorC172
import Derived.Test.YtmeejnkpaiinaabDoorC174
import Derived.Test.YtmeejnkpaiinaabDoorC167
import Derived.Test.YtmeejnkpaiinaabDoorW8
namespace Go.Proofs.YtmeejnkpaiinaabDoor
open Go.RowKit
set_option linter.unusedVariables false
set_option linter.unusedSimpArgs false
attribute [local irreducible] cN syn octS octF

theorem sInner_b (A A2 : Option Addr) (c c2 : Nat) (xs ys : List Int) (w : World) (ha : Rds w w.heap.size .i64 A xs) (hx : xs.length ≤ maxLen) (ha2 : Rds w w.heap.size .i64 A2 ys) (hy : ys.length ≤ maxLen) :
    Calls Tryd.prog 13 #[.slice A xs.length c, .slice A2 ys.length c2] w fun e w' => e = .returned (.tuple #[.int .i64 (lvInner xs ys).1, .bool (lvInner xs ys).2]) ∧ Below w.heap.size w w' := iLatticeInner_calls A A2 c c2 xs ys w ha hx ha2 hy
theorem tmod_zero {n b : Int} (hb : b ≠ 0) (h : n % b = 0) : n.tmod b = 0 := by
  obtain ⟨k, rfl⟩ := Int.dvd_of_emod_eq_zero h
  exact Int.mul_tmod_right b k
theorem codeN_of {n : Int} (h : cIn n = true) : ∃ R : Nat, n = (R : Int) ∧ codeN R := by
  simp only [cIn, Bool.and_eq_true] at h
  have hn := (wordB_iff n).1 h.1
  obtain ⟨R, rfl⟩ := Int.eq_ofNat_of_zero_le hn.1
  exact ⟨R, rfl, by omega, h.2⟩
theorem inn_rngA {xs ys : List Int} (hx : vecB xs = true) (hy : vecB ys = true) : ∀ a, innL xs ys = a → -240000000000 ≤ a ∧ a ≤ 240000000000 := fun a e => e ▸ innL_rng hx hy
set_option maxHeartbeats 4000000 in
theorem walk_FnLattice (a0 : Option Addr) (len0 cap0 : Nat) (z0 : List Int) (w : World) (w0 : IsRow .u8 w a0 len0 cap0 z0) (hT : Tab3 w) :
    Calls Tryd.prog 3 #[.slice a0 len0 cap0] w fun e w' => e = .returned (.bool true) ∧ Below w.heap.size w w' := by
  obtain ⟨bs, rfl, hr, hc, hm, hv⟩ := w0.bytes
  have hm' := hm
  unfold maxLen at hm'
  by_cases hbig : 1048576 < bs.length
  · go_enter Tryd.func3, Tryd.ntmps3
    go_wp2_with fail
    go_ret
    exact ⟨rfl, Below.refl _ _⟩
  have hbig' : bs.length ≤ 1048576 := by omega
  clear hbig
  go_enter Tryd.func3, Tryd.ntmps3
  go_wp2_with fail
  refine (DrawLatticeIn_calls _ _ bs _ hr hc hm hv).mono ?_
  rintro e w1 ⟨v, xs, rfl, o1, hl, b1⟩
  obtain ⟨Aa, ca, rfl⟩ := o1.slice
  have B0 := Lib.hid (b1)
  have Oa0 := Lib.hid (o1)
  rcases hb : latB xs with _ | _
  · have H := Lib.hid hb
    clear hb
    go_wp2_with fail
    refine (iLatticeIn_calls Aa ca xs _ (Oa0.out).rds (Oa0.out).len_le (hT.below (B0.out) hT.lt)).mono ?_
    rintro e w1_ ⟨he, b1_⟩
    rw [H.out] at he
    subst he
    have B1 := Lib.hid ((B0.out).trans (b1_.mono (B0.out).size))
    have Oa1 := Lib.hid ((Oa0.out).below b1_)
    go_wp2_with fail
    refine (sLatticeIn_calls Aa ca xs _ (Oa1.out).rds (Oa1.out).len_le).mono ?_
    rintro e w2_ ⟨he, b2_⟩
    rw [H.out] at he
    subst he
    have B2 := Lib.hid ((B1.out).trans (b2_.mono (B1.out).size))
    have Oa2 := Lib.hid ((Oa1.out).below b2_)
    go_wp2_with fail
    go_ret
    first | exact ⟨rfl, B2.out⟩ | exact ⟨rfl, by have hB := B2.out; simp only [World.drewN_drewN] at hB; exact hB⟩
  · have H := Lib.hid hb
    have hv := latB_vec hb
    have HI := Lib.hid (show lvInner xs xs = (innL xs xs, true) by simp [lvInner, hv])
    have HF := Lib.hid (show lvFlip xs 16777215 = (flipL xs 16777215, true) by simp [lvFlip, hv, wordB])
    have HM := Lib.hid (flip_all hb)
    obtain ⟨h1, h2⟩ := lat_sq hb
    have h3 : (innL xs xs).tmod 16 = 0 := tmod_zero (by omega) h1
    have h4 : (innL xs xs == 16) = false := by simpa using h2
    generalize innL xs xs = n at *
    generalize flipL xs 16777215 = ms at *
    have H3 := Lib.hid h3
    have H4 := Lib.hid (show (n != 16) = true by simpa using h2)
    clear hb hv h1 h2 h3 h4
    go_wp2_with fail
    refine (iLatticeIn_calls Aa ca xs _ (Oa0.out).rds (Oa0.out).len_le (hT.below (B0.out) hT.lt)).mono ?_
    rintro e w1_ ⟨he, b1_⟩
    rw [H.out] at he
    subst he
    have B1 := Lib.hid ((B0.out).trans (b1_.mono (B0.out).size))
    have Oa1 := Lib.hid ((Oa0.out).below b1_)
    go_wp2_with fail
    refine (sLatticeIn_calls Aa ca xs _ (Oa1.out).rds (Oa1.out).len_le).mono ?_
    rintro e w2_ ⟨he, b2_⟩
    rw [H.out] at he
    subst he
    have B2 := Lib.hid ((B1.out).trans (b2_.mono (B1.out).size))
    have Oa2 := Lib.hid ((Oa1.out).below b2_)
    go_wp2_with fail
    refine (iLatticeInner_calls Aa Aa ca ca xs xs _ (Oa2.out).rds (Oa2.out).len_le (Oa2.out).rds (Oa2.out).len_le).mono ?_
    rintro e w3_ ⟨he, b3_⟩
    rw [HI.out] at he
    dsimp only at he
    subst he
    have B3 := Lib.hid ((B2.out).trans (b3_.mono (B2.out).size))
    have Oa3 := Lib.hid ((Oa2.out).below b3_)
    go_wp2_with fail
    refine (iLatticeFlip_calls Aa ca xs 16777215 _ (Oa3.out).rds (Oa3.out).len_le (hT.below (B3.out) hT.lt).1).mono ?_
    rintro e w4_ ⟨v4_, he, o4_, b4_⟩
    rw [HF.out] at he o4_
    (try dsimp only at he o4_)
    subst he
    obtain ⟨Am, cm, rfl⟩ := o4_.slice
    have B4 := Lib.hid ((B3.out).trans (b4_.mono (B3.out).size))
    have Oa4 := Lib.hid ((Oa3.out).below b4_)
    have Om4 := Lib.hid (o4_.weak (B3.out).size)
    have h3 := H3.out
    have h4 := H4.out
    go_wp2_with fail
    refine (iLatticeIn_calls Am cm ms _ (Om4.out).rds (Om4.out).len_le (hT.below (B4.out) hT.lt)).mono ?_
    rintro e w5_ ⟨he, b5_⟩
    rw [HM.out] at he
    subst he
    have B5 := Lib.hid ((B4.out).trans (b5_.mono (B4.out).size))
    have Oa5 := Lib.hid ((Oa4.out).below b5_)
    have Om5 := Lib.hid ((Om4.out).below b5_)
    go_wp2_with fail
    go_ret
    first | exact ⟨rfl, B5.out⟩ | exact ⟨rfl, by have hB := B5.out; simp only [World.drewN_drewN] at hB; exact hB⟩
end Go.Proofs.YtmeejnkpaiinaabDoor
