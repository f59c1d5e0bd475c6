/- The walk of the promise of the common point. -/
import Derived.Test.YtnfpdonlknkccaaDoorC95
import Derived.Test.YtnfpdonlknkccaaDoorC98
import Derived.Test.YtnfpdonlknkccaaDoorQ3
namespace Go.Proofs.YtnfpdonlknkccaaDoor
open Go.RowKit
set_option linter.unusedVariables false
attribute [local irreducible] octS cN octF syn

theorem bit_at (l t : Nat) (h : l.testBit t = true) : (l : Int) / 2 ^ t % 2 = 1 := by
  have h2 : l / 2 ^ t % 2 = 1 := by rw [Nat.testBit_eq_decide_div_mod_eq, decide_eq_true_eq] at h; exact h
  rw [show ((l : Int) / 2 ^ t % 2) = ((l / 2 ^ t % 2 : Nat) : Int) by simp, h2]
  rfl
theorem plPoint_cases (a x y : Int) : plPoint a x y = (0, false) ∨ ∃ t : Nat, t < 24 ∧ plPoint a x y = ((t : Int), true) ∧ plPoint a y x = ((t : Int), true) ∧ IsW x ∧ IsW y ∧ x / 2 ^ t % 2 = 1 ∧ y / 2 ^ t % 2 = 1 := by
  rcases hb : baseB a with _ | _
  · left; simp [plPoint, hb]
  obtain ⟨B, rfl, hB⟩ := baseB_nat hb
  by_cases hxy : x = y
  · left; simp [plPoint, hxy]
  rcases hcx : (lns (B : Int)).contains x with _ | _
  · left; simp only [plPoint, hcx, Bool.false_and, Bool.and_false]; rfl
  rcases hcy : (lns (B : Int)).contains y with _ | _
  · left; simp only [plPoint, hcx, hcy, Bool.and_false]; rfl
  right
  have hyx : ¬ y = x := fun e => hxy e.symm
  have e1 : plPoint (B : Int) x y = ((plI (andI x y).toNat).getD 0 0, true) := by simp only [plPoint, hcx, hcy, hb, hxy, Bool.and_true, decide_true, ne_eq, not_false_eq_true]; rfl
  have e2 : plPoint (B : Int) y x = ((plI (andI y x).toNat).getD 0 0, true) := by simp only [plPoint, hcx, hcy, hb, hyx, Bool.and_true, decide_true, ne_eq, not_false_eq_true]; rfl
  obtain ⟨l, hl, rfl⟩ := lns_has hB hcx
  obtain ⟨m, hm, rfl⟩ := lns_has hB hcy
  obtain ⟨t, ht, hand, h1, h2⟩ := meet_at hB hl hm (fun e => hxy (by rw [e]))
  have hl0 := (hl.facts hB).1
  have hm0 := (hm.facts hB).1
  refine ⟨t, ht, ?_, ?_, ⟨by omega, by omega⟩, ⟨by omega, by omega⟩, bit_at l t h1, bit_at m t h2⟩
  · rw [e1, andI_nat, hand, Int.toNat_natCast, pl_pow t ht]
  · rw [e2, andI_nat, Nat.and_comm, hand, Int.toNat_natCast, pl_pow t ht]
set_option maxHeartbeats 4000000 in
theorem walk_FnPoint (a0 : Option Addr) (len0 cap0 : Nat) (z0 : List Int) (w : World) (w0 : IsRow .u8 w a0 len0 cap0 z0) (hT : Tab3 w) :
    Calls Tryd.prog 4 #[.slice a0 len0 cap0] w fun e w' => e = .returned (.bool true) ∧ Below w.heap.size w w' := by
  obtain ⟨bs, rfl, hr, hc, hm, hv⟩ := w0.bytes
  have hm' := hm
  unfold maxLen at hm'
  by_cases hbig : 1048576 < bs.length
  · go_enter Tryd.func4, Tryd.ntmps4
    go_wp2_with fail
    go_ret
    exact ⟨rfl, Below.refl _ _⟩
  have hbig' : bs.length ≤ 1048576 := by omega
  clear hbig
  go_enter Tryd.func4, Tryd.ntmps4
  go_wp2_with fail
  refine (DrawPlanePoint_calls _ _ bs _ hr hc hm hv).mono ?_
  rintro e w1 ⟨a, x, y, rfl, b1⟩
  have B0 := Lib.hid (b1)
  rcases plPoint_cases a x y with H0 | ⟨t, ht, H0, H1, wx, wy, hx, hy⟩
  · have H := Lib.hid H0
    clear H0
    go_wp2_with fail
    refine (iPlanePoint_calls a x y _ (hT.below (B0.out) hT.lt)).mono ?_
    rintro e w1_ ⟨he, b1_⟩
    rw [H.out] at he
    dsimp only at he
    subst he
    have B1 := Lib.hid ((B0.out).trans (b1_.mono (B0.out).size))
    go_wp2_with fail
    refine (sPlanePoint_calls a x y _).mono ?_
    rintro e w2_ ⟨he, b2_⟩
    rw [H.out] at he
    dsimp only at he
    subst he
    have B2 := Lib.hid ((B1.out).trans (b2_.mono (B1.out).size))
    go_wp2_with fail
    go_ret
    first | exact ⟨rfl, B2.out⟩ | exact ⟨rfl, by have hB := B2.out; simp only [World.drewN_drewN] at hB; exact hB⟩
  · have H := Lib.hid H0
    have HR := Lib.hid H1
    have hx0 : 0 ≤ x / 2 ^ t := Int.ediv_nonneg wx.1 (Int.le_of_lt (Int.pow_pos (by decide)))
    have hy0 : 0 ≤ y / 2 ^ t := Int.ediv_nonneg wy.1 (Int.le_of_lt (Int.pow_pos (by decide)))
    have hxt : (x / 2 ^ t).tmod 2 = 1 := by rw [Int.tmod_eq_emod_of_nonneg hx0]; exact hx
    have hyt : (y / 2 ^ t).tmod 2 = 1 := by rw [Int.tmod_eq_emod_of_nonneg hy0]; exact hy
    have ht0 : (0 : Int) ≤ (t : Int) := by omega
    have ht1 : (t : Int) < 64 := by omega
    clear H0 H1
    go_wp2_with fail
    refine (iPlanePoint_calls a x y _ (hT.below (B0.out) hT.lt)).mono ?_
    rintro e w1_ ⟨he, b1_⟩
    rw [H.out] at he
    dsimp only at he
    subst he
    have B1 := Lib.hid ((B0.out).trans (b1_.mono (B0.out).size))
    go_wp2_with fail
    refine (sPlanePoint_calls a x y _).mono ?_
    rintro e w2_ ⟨he, b2_⟩
    rw [H.out] at he
    dsimp only at he
    subst he
    have B2 := Lib.hid ((B1.out).trans (b2_.mono (B1.out).size))
    go_wp2_with fail
    refine (iPlanePoint_calls a y x _ (hT.below (B2.out) hT.lt)).mono ?_
    rintro e w3_ ⟨he, b3_⟩
    rw [HR.out] at he
    dsimp only at he
    subst he
    have B3 := Lib.hid ((B2.out).trans (b3_.mono (B2.out).size))
    go_wp2_with fail
    go_ret
    first | exact ⟨rfl, B3.out⟩ | exact ⟨rfl, by have hB := B3.out; simp only [World.drewN_drewN] at hB; exact hB⟩
end Go.Proofs.YtnfpdonlknkccaaDoor
