/- The walk of promise 43. -/
import Derived.Test.YtagniijhbiglaaaGreatDoorC53
import Derived.Test.YtagniijhbiglaaaGreatDoorC55
import Derived.Test.YtagniijhbiglaaaGreatDoorW31
import Derived.Test.YtagniijhbiglaaaGreatDoorQ3
namespace Go.Proofs.YtagniijhbiglaaaGreatDoor
open Go.RowKit
set_option linter.unusedVariables false
attribute [local irreducible] octS cN octF syn

/-- What is known of a word that a sextet holds. -/
theorem holds_yes {xs : List Int} {x : Int} (h : holdsB xs x = true) : ∃ i0 j0 : Nat, xs.length = 6 ∧ i0 < 6 ∧ j0 < i0 ∧ IsW x ∧ oIn x = true ∧ ∀ k, k < 6 → IsW (xs.getD k 0) ∧ xs.getD k 0 ≠ 0 ∧ andI (xs.getD k 0) x = if k = i0 ∨ k = j0 then xs.getD k 0 else 0 := by
  unfold holdsB at h
  rw [Bool.and_eq_true] at h
  obtain ⟨hb, hc⟩ := h
  obtain ⟨u, hu, rfl⟩ := (sxB_iff xs).1 hb
  rw [List.contains_iff_mem] at hc
  have ho := octSx_oct hu x hc
  obtain ⟨i, j, hi, hj, rfl⟩ := octSx_mem x hc
  refine ⟨i, j, sxOf_len hu, hi, hj, ho.rng, oct_in' ho, fun k hk => ?_⟩
  have ht := (sxOf_same hu (sx_at hu k hk)).1
  have hne : (sxOf u).getD k 0 ≠ 0 := fun e => by
    have := ht.2.2
    rw [e] at this
    have h0 : wt 0 = 0 := by decide
    omega
  refine ⟨⟨ht.1, ht.2.1⟩, hne, ?_⟩
  have key : ∀ a, a < 6 → andI ((sxOf u).getD k 0) ((sxOf u).getD a 0) = if k = a then (sxOf u).getD k 0 else 0 := fun a ha => by
    split
    · rename_i e
      subst e
      obtain ⟨t, et, _, _⟩ := ht.nat
      rw [et, andI_nat, Nat.and_self]
    · rename_i e
      exact (sx_apart hu (sx_at hu k hk) (sx_at hu a ha) (sx_ne hu k a hk ha e)).1
  have k1 := key i hi
  have k2 := key j (by omega)
  obtain ⟨K, ek, _, _⟩ := ht.nat
  obtain ⟨I, ei, _, _⟩ := (sxOf_same hu (sx_at hu i hi)).1.nat
  obtain ⟨J, ej, _, _⟩ := (sxOf_same hu (sx_at hu j (by omega))).1.nat
  rw [ek, ei, andI_nat] at k1
  rw [ek, ej, andI_nat] at k2
  rw [ek, ei, ej, xorI_nat, andI_nat, Nat.and_xor_distrib_left]
  by_cases e1 : k = i
  · have e2 : ¬ k = j := by omega
    rw [if_pos e1] at k1
    rw [if_neg e2] at k2
    rw [if_pos (.inl e1)]
    have a1 : K &&& I = K := by omega
    have a2 : K &&& J = 0 := by omega
    rw [a1, a2, Nat.xor_zero]
  · rw [if_neg e1] at k1
    have a1 : K &&& I = 0 := by omega
    by_cases e2 : k = j
    · rw [if_pos e2] at k2
      rw [if_pos (.inr e2)]
      have a2 : K &&& J = K := by omega
      rw [a1, a2, Nat.zero_xor]
    · rw [if_neg e2] at k2
      rw [if_neg (by omega : ¬ (k = i ∨ k = j))]
      have a2 : K &&& J = 0 := by omega
      rw [a1, a2]
      rfl
/-- How many of the two lie below k. -/
def twoTo (i j k : Nat) : Nat := (if j < k then 1 else 0) + (if i < k then 1 else 0)
theorem twoTo_zero (i j : Nat) : twoTo i j 0 = 0 := by simp [twoTo]
theorem twoTo_six (i j : Nat) (hi : i < 6) (hj : j < i) : twoTo i j 6 = 2 := by unfold twoTo; rw [if_pos (by omega), if_pos hi]
theorem twoTo_yes (i j k : Nat) (hj : j < i) (h : k = i ∨ k = j) : twoTo i j (k + 1) = twoTo i j k + 1 := by
  unfold twoTo
  rcases h with rfl | rfl
  · rw [if_pos (by omega), if_pos (by omega), if_pos (by omega), if_neg (by omega)]
  · rw [if_pos (by omega), if_neg (by omega), if_neg (by omega), if_neg (by omega)]
theorem twoTo_no (i j k : Nat) (h : ¬ (k = i ∨ k = j)) : twoTo i j (k + 1) = twoTo i j k := by
  unfold twoTo
  have e1 : (j < k + 1) = (j < k) := by rw [eq_iff_iff]; omega
  have e2 : (i < k + 1) = (i < k) := by rw [eq_iff_iff]; omega
  simp only [e1, e2]
set_option maxRecDepth 100000 in
set_option maxHeartbeats 2000000 in
theorem walk_FnHolds (a0 : Option Addr) (len0 cap0 : Nat) (z0 : List Int) (w : World) (w0 : IsRow .u8 w a0 len0 cap0 z0) (hT : Tab3 w) :
    Calls Tryz.prog 4 #[.slice a0 len0 cap0] w fun e w' => e = .returned (.bool true) ∧ Below w.heap.size w w' := by
  obtain ⟨bs, rfl, hr, hc, hm, hv⟩ := w0.bytes
  have hm' := hm
  unfold maxLen at hm'
  by_cases hbig : 1048576 < bs.length
  · go_enter Tryz.func4, Tryz.ntmps4
    go_wp2_with fail
    go_ret
    exact ⟨rfl, Below.refl _ _⟩
  have hbig' : bs.length ≤ 1048576 := by omega
  clear hbig
  go_enter Tryz.func4, Tryz.ntmps4
  go_wp2_with fail
  refine (DrawSextetHolds_calls _ _ bs _ hr hc hm hv).mono ?_
  rintro e w1 ⟨v, xs, x, rfl, o1, hl6, b1⟩
  obtain ⟨Az, cz, rfl⟩ := o1.slice
  have B0 := Lib.hid (b1)
  have Oz0 := Lib.hid (o1)
  rcases hb : holdsB xs x with _ | _
  · have H := Lib.hid hb
    clear hb hl6
    go_wp2_with fail
    refine (iSextetHolds_calls _ _ xs x _ (Oz0.out).rds (Oz0.out).len_le (hT.below (B0.out) hT.lt).2).mono ?_
    rintro e w1_ ⟨he, b1_⟩
    rw [H.out] at he
    subst he
    have B1 := Lib.hid ((B0.out).trans (b1_.mono (B0.out).size))
    have Oz1 := Lib.hid ((Oz0.out).below b1_)
    go_wp2_with fail
    refine (sSextetHolds_calls _ _ xs x _ (Oz1.out).rds (Oz1.out).len_le).mono ?_
    rintro e w2_ ⟨he, b2_⟩
    rw [H.out] at he
    subst he
    have B2 := Lib.hid ((B1.out).trans (b2_.mono (B1.out).size))
    have Oz2 := Lib.hid ((Oz1.out).below b2_)
    go_wp2_with fail
    go_ret
    first | exact ⟨rfl, B2.out⟩ | exact ⟨rfl, by have hB := B2.out; simp only [World.drewN_drewN] at hB; exact hB⟩
  · obtain ⟨i0, j0, h6, hi0, hj0, wx, hin, hall⟩ := holds_yes hb
    have H := Lib.hid hb
    have HIN := Lib.hid hin
    have HALL := Lib.hid hall
    have H6 := Lib.hid h6
    clear hb hin hall hl6 h6
    go_wp2_with fail
    refine (iSextetHolds_calls _ _ xs x _ (Oz0.out).rds (Oz0.out).len_le (hT.below (B0.out) hT.lt).2).mono ?_
    rintro e w1_ ⟨he, b1_⟩
    rw [H.out] at he
    subst he
    have B1 := Lib.hid ((B0.out).trans (b1_.mono (B0.out).size))
    have Oz1 := Lib.hid ((Oz0.out).below b1_)
    go_wp2_with fail
    refine (sSextetHolds_calls _ _ xs x _ (Oz1.out).rds (Oz1.out).len_le).mono ?_
    rintro e w2_ ⟨he, b2_⟩
    rw [H.out] at he
    subst he
    have B2 := Lib.hid ((B1.out).trans (b2_.mono (B1.out).size))
    have Oz2 := Lib.hid ((Oz1.out).below b2_)
    have HZ := Lib.hid (Oz2.out)
    have HBZ := Lib.hid (B2.out)
    have hl6 : ((xs.length : Nat) : Int) = 6 := by rw [H6.out]; rfl
    go_wp2_with fail
    go_loopw [7, 8] (fun nn i wr => ∃ k m : Nat, k ≤ 6 ∧ nn = .int .i64 m ∧ i = .int .i64 k ∧ Hid (m = twoTo i0 j0 k) ∧ Hid (Own wr w.heap.size (.slice Az xs.length cz) xs) ∧ Hid (Below w.heap.size w wr)) (fun _ i _ => 6 - (intOf i).toNat)
    case atStart => exact ⟨0, 0, by omega, rfl, rfl, Lib.hid (twoTo_zero i0 j0).symm, HZ, HBZ⟩
    case round =>
      obtain ⟨k, m, hk, rfl, rfl, hm, hz, hbl⟩ := hrel
      by_cases hlt : k < 6
      · obtain ⟨g, rfl, _, _⟩ := own_at hz.out (by rw [H6.out]; decide)
        have hc0 := hz.out.cell (j := k) (by rw [H6.out]; exact hlt)
        obtain ⟨wy, hy0, hand⟩ := HALL.out k hlt
        have hk1 : (0 : Int) ≤ (k : Int) := by omega
        have hk2 : (k : Int) < 6 := by omega
        have hk3 : (k : Int) < (xs.length : Int) := by omega
        have hxa := and_i64w _ x wy wx
        have hm2 : m ≤ 2 := by rw [hm.out]; unfold twoTo; split <;> split <;> omega
        have hm3 : (0 : Int) ≤ (m : Int) := by omega
        have hm4 : (m : Int) ≤ 2 := by omega
        generalize xs.getD k 0 = y at *
        rw [hand] at hxa
        by_cases he : k = i0 ∨ k = j0
        · have HN := Lib.hid (show m + 1 = twoTo i0 j0 (k + 1) by rw [twoTo_yes i0 j0 k hj0 he, hm.out])
          rw [if_pos he] at hxa
          have e1 : (y == 0) = false := by simpa using hy0
          have e2 : (y != 0) = true := by simpa using hy0
          clear hand hy0 he hm
          go_wp2_with fail
          try go_quiet (fail)
          go_wp2_with fail
          go_roundw
          case rel => first | exact ⟨k + 1, m + 1, by omega, by go_num, by go_num, HN, hz, hbl⟩ | exact ⟨k + 1, m + 1, by omega, by go_num, by go_num, HN, Lib.hid (hz.out.drewN _), Lib.hid (below_drewN hbl.out _)⟩
          case measure => simp [intOf]; omega
        · have HN := Lib.hid (show m = twoTo i0 j0 (k + 1) by rw [twoTo_no i0 j0 k he, hm.out])
          rw [if_neg he] at hxa
          clear hand hy0 he hm
          go_wp2_with fail
          try go_quiet (fail)
          go_wp2_with fail
          go_roundw
          case rel => first | exact ⟨k + 1, m, by omega, by go_num, by go_num, HN, hz, hbl⟩ | exact ⟨k + 1, m, by omega, by go_num, by go_num, HN, Lib.hid (hz.out.drewN _), Lib.hid (below_drewN hbl.out _)⟩
          case measure => simp [intOf]; omega
      · obtain rfl : k = 6 := by omega
        have hm2 : m = 2 := by rw [hm.out]; exact twoTo_six i0 j0 hi0 hj0
        subst hm2
        go_wp2_with fail
        refine (iOctadIn_calls x _ (hT.below hbl.out hT.lt)).mono ?_
        rintro e w6 ⟨he, b6⟩
        rw [HIN.out] at he
        subst he
        have hb6 := Lib.hid (hbl.out.trans (b6.mono hbl.out.size))
        clear b6
        go_wp2_with fail
        go_ret
        exact ⟨rfl, hb6.out⟩
end Go.Proofs.YtagniijhbiglaaaGreatDoor
