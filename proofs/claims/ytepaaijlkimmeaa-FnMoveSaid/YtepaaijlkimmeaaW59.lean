/- The walks of promises 62, 63 and 64. -/
import Derived.Test.YtepaaijlkimmeaaC135
import Derived.Test.YtepaaijlkimmeaaW58
import Derived.Test.YtepaaijlkimmeaaQ3
namespace Go.Proofs.Ytepaaijlkimmeaa
open Go.RowKit
set_option linter.unusedVariables false

theorem sqI_val (r : R23) : sqI (r.val : Int) = sqF r := by simp [sqI, isR_val, rOf_val]
theorem sqI_true {n : Int} (h : sqI n = true) : ∃ r : R23, n = r.val ∧ sqF r = true := by
  rcases r_or n with ⟨r, rfl⟩ | hn
  · exact ⟨r, rfl, by rwa [sqI_val] at h⟩
  · simp [sqI, isR_no hn] at h
theorem sq_all : ∀ r : R23, sqF r = true → sqI (23 - (r.val : Int)) = false ∧ sqI (2 * (r.val : Int) % 23) = true ∧ sqI ((r.val : Int) * r.val % 23) = true := by decide +kernel
theorem tn_all : ∀ r : R23, r ≠ 0 → tnI ((tn r).val : Int) = ((r.val : Int), true) ∧ ((tn r).val : Int) * r.val % 23 = 1 ∧ sqI ((tn r).val : Int) = sqI (r.val : Int) := by decide +kernel
theorem tnI_true {n m : Int} (h : tnI n = (m, true)) : ∃ r : R23, n = r.val ∧ m = (tn r).val ∧ r ≠ 0 := by
  rcases r_or n with ⟨r, rfl⟩ | hn
  · by_cases h0 : r = 0
    · subst h0
      rw [show tnI ((0 : R23).val : Int) = (0, false) by decide] at h
      cases h
    · rw [show tnI (r.val : Int) = (((tn r).val : Int), true) by simp [tnI, isR_val, rOf_val, h0]] at h
      cases h
      exact ⟨r, rfl, rfl, h0⟩
  · simp [tnI, isR_no hn] at h
theorem tnI_false {n m : Int} (h : tnI n = (m, false)) : m = 0 := by
  unfold tnI at h
  split at h
  · cases h
  · cases h; rfl
theorem mvI_false {a b c d x m : Int} (h : mvI a b c d x = (m, false)) : m = 0 := by
  unfold mvI at h
  split at h
  · cases h
  · cases h; rfl
theorem neg_val (b : R23) : (23 - (b.val : Int)) % 23 = ((-b : R23).val : Int) := by
  have h : (-b : R23) = 0 - b := by grobner
  have := r_rng b
  rw [h, val_sub]
  show _ = (((0 : R23).val : Int) + (23 - (b.val : Int))) % 23
  rw [show ((0 : R23).val : Int) = 0 from rfl, Int.zero_add]
theorem mvI_true {a b c d x m : Int} (h : mvI a b c d x = (m, true)) : mvI d ((23 - b) % 23) ((23 - c) % 23) a m = (x, true) ∧ 0 ≤ b ∧ b ≤ 22 ∧ 0 ≤ c ∧ c ≤ 22 ∧ 0 ≤ a ∧ a ≤ 22 ∧ 0 ≤ d ∧ d ≤ 22 := by
  rcases hg : gvI a b c d with _ | _
  · simp [mvI, hg] at h
  obtain ⟨a, b, c, d, rfl, rfl, rfl, rfl, hs⟩ := gvI_true hg
  rcases x_or x with ⟨y, rfl⟩ | hx
  · rw [mvI_val a b c d y hs] at h
    cases h
    have h1 := r_rng a
    have h2 := r_rng b
    have h3 := r_rng c
    have h4 := r_rng d
    refine ⟨?_, h2.1, h2.2, h3.1, h3.2, h1.1, h1.2, h4.1, h4.2⟩
    have hs2 : sqF (d * a - -b * -c) = true := by rw [show d * a - -b * -c = a * d - b * c by grobner]; exact hs
    rw [neg_val, neg_val, mvI_val d (-b) (-c) a _ hs2, mv_back a b c d (sq_ne hs)]
  · rw [show mvI a.val b.val c.val d.val x = (0, false) by unfold mvI; rw [if_neg (by simp; omega)]] at h
    cases h
set_option maxHeartbeats 4000000 in
theorem walk_FnSquare (a0 : Option Addr) (len0 cap0 : Nat) (z0 : List Int) (w : World) (w0 : IsRow .u8 w a0 len0 cap0 z0) :
    Calls Try.prog 3 #[.slice a0 len0 cap0] w fun e w' => e = .returned (.bool true) ∧ Below w.heap.size w w' := by
  obtain ⟨bs, rfl, hr, hc, hm, hv⟩ := w0.bytes
  have hm' := hm
  unfold maxLen at hm'
  by_cases hbig : 1048576 < bs.length
  · go_enter Try.func3, Try.ntmps3
    go_wp2_with fail
    go_ret
    exact ⟨rfl, Below.refl _ _⟩
  have hbig' : bs.length ≤ 1048576 := by omega
  clear hbig
  go_enter Try.func3, Try.ntmps3
  go_wp2_with fail
  refine (DrawResidueSquare_calls _ _ bs _ hr hc hm hv).mono ?_
  rintro e w1 ⟨n, rfl, b1⟩
  have B0 := Lib.hid (b1)
  rcases hb : sqI n with _ | _
  · have H := Lib.hid hb
    clear hb
    go_wp2_with fail
    refine (iResidueSquare_calls n _).mono ?_
    rintro e w' ⟨he, rfl⟩
    rw [H.out] at he
    subst he
    go_wp2_with fail
    refine (sResidueSquare_calls n _).mono ?_
    rintro e w' ⟨he, rfl⟩
    rw [H.out] at he
    subst he
    go_wp2_with fail
    go_ret
    first | exact ⟨rfl, B0.out⟩ | exact ⟨rfl, by have hB := B0.out; simp only [World.drewN_drewN] at hB; exact hB⟩
  · obtain ⟨r, rfl, hr2⟩ := sqI_true hb
    obtain ⟨f1, f2, f3⟩ := sq_all r hr2
    obtain ⟨n0, n1⟩ := r_rng r
    obtain ⟨m0, m1⟩ := mul_rng n0 (show (r.val : Int) ≤ 23 by omega) n0 (show (r.val : Int) ≤ 23 by omega)
    have H := Lib.hid hb
    have F1 := Lib.hid f1
    have F2 := Lib.hid f2
    have F3 := Lib.hid f3
    clear hb f1 f2 f3 hr2
    generalize (r.val : Int) = n at *
    go_wp2_with fail
    refine (iResidueSquare_calls n _).mono ?_
    rintro e w' ⟨he, rfl⟩
    rw [H.out] at he
    subst he
    go_wp2_with fail
    refine (sResidueSquare_calls n _).mono ?_
    rintro e w' ⟨he, rfl⟩
    rw [H.out] at he
    subst he
    go_wp2_with fail
    refine (iResidueSquare_calls (23 - n) _).mono ?_
    rintro e w' ⟨he, rfl⟩
    rw [F1.out] at he
    subst he
    go_wp2_with fail
    refine (iResidueSquare_calls (2 * n % 23) _).mono ?_
    rintro e w' ⟨he, rfl⟩
    rw [F2.out] at he
    subst he
    go_wp2_with fail
    refine (iResidueSquare_calls (n * n % 23) _).mono ?_
    rintro e w' ⟨he, rfl⟩
    rw [F3.out] at he
    subst he
    go_wp2_with fail
    go_ret
    first | exact ⟨rfl, B0.out⟩ | exact ⟨rfl, by have hB := B0.out; simp only [World.drewN_drewN] at hB; exact hB⟩
set_option maxHeartbeats 4000000 in
theorem walk_FnResidueTurned (a0 : Option Addr) (len0 cap0 : Nat) (z0 : List Int) (w : World) (w0 : IsRow .u8 w a0 len0 cap0 z0) :
    Calls Try.prog 4 #[.slice a0 len0 cap0] w fun e w' => e = .returned (.bool true) ∧ Below w.heap.size w w' := by
  obtain ⟨bs, rfl, hr, hc, hm, hv⟩ := w0.bytes
  have hm' := hm
  unfold maxLen at hm'
  by_cases hbig : 1048576 < bs.length
  · go_enter Try.func4, Try.ntmps4
    go_wp2_with fail
    go_ret
    exact ⟨rfl, Below.refl _ _⟩
  have hbig' : bs.length ≤ 1048576 := by omega
  clear hbig
  go_enter Try.func4, Try.ntmps4
  go_wp2_with fail
  refine (DrawResidueTurned_calls _ _ bs _ hr hc hm hv).mono ?_
  rintro e w1 ⟨n, rfl, b1⟩
  have B0 := Lib.hid (b1)
  rcases hb : tnI n with ⟨m, _ | _⟩
  · obtain rfl := tnI_false hb
    have H := Lib.hid hb
    clear hb
    go_wp2_with fail
    refine (iResidueTurned_b n _).mono ?_
    rintro e w1_ ⟨he, b1_⟩
    rw [H.out] at he
    dsimp only at he
    subst he
    have B1 := Lib.hid ((B0.out).trans (b1_.mono (B0.out).size))
    go_wp2_with fail
    refine (sResidueTurned_b n _).mono ?_
    rintro e w2_ ⟨he, b2_⟩
    rw [H.out] at he
    dsimp only at he
    subst he
    have B2 := Lib.hid ((B1.out).trans (b2_.mono (B1.out).size))
    go_wp2_with fail
    go_ret
    first | exact ⟨rfl, B2.out⟩ | exact ⟨rfl, by have hB := B2.out; simp only [World.drewN_drewN] at hB; exact hB⟩
  · obtain ⟨r, rfl, rfl, h0⟩ := tnI_true hb
    obtain ⟨f1, f2, f3⟩ := tn_all r h0
    obtain ⟨n0, n1⟩ := r_rng r
    obtain ⟨t0, t1⟩ := r_rng (tn r)
    obtain ⟨m0, m1⟩ := mul_rng t0 (show ((tn r).val : Int) ≤ 23 by omega) n0 (show (r.val : Int) ≤ 23 by omega)
    have H := Lib.hid hb
    have F1 := Lib.hid f1
    have F3 := Lib.hid f3
    clear hb f1 f3 h0
    generalize ((tn r).val : Int) = m at *
    generalize (r.val : Int) = n at *
    obtain ⟨s, hs⟩ : ∃ s, sqI n = s := ⟨_, rfl⟩
    have F4 := Lib.hid hs
    clear hs
    go_wp2_with fail
    refine (iResidueTurned_b n _).mono ?_
    rintro e w1_ ⟨he, b1_⟩
    rw [H.out] at he
    dsimp only at he
    subst he
    have B1 := Lib.hid ((B0.out).trans (b1_.mono (B0.out).size))
    go_wp2_with fail
    refine (sResidueTurned_b n _).mono ?_
    rintro e w2_ ⟨he, b2_⟩
    rw [H.out] at he
    dsimp only at he
    subst he
    have B2 := Lib.hid ((B1.out).trans (b2_.mono (B1.out).size))
    go_wp2_with fail
    refine (iResidueTurned_b m _).mono ?_
    rintro e w3_ ⟨he, b3_⟩
    rw [F1.out] at he
    dsimp only at he
    subst he
    have B3 := Lib.hid ((B2.out).trans (b3_.mono (B2.out).size))
    go_wp2_with fail
    refine (iResidueSquare_calls m _).mono ?_
    rintro e w' ⟨he, rfl⟩
    rw [F3.out, F4.out] at he
    subst he
    go_wp2_with fail
    refine (iResidueSquare_calls n _).mono ?_
    rintro e w' ⟨he, rfl⟩
    rw [F4.out] at he
    subst he
    go_wp2_with fail
    go_ret
    first | exact ⟨rfl, B3.out⟩ | exact ⟨rfl, by have hB := B3.out; simp only [World.drewN_drewN] at hB; exact hB⟩
set_option maxHeartbeats 4000000 in
theorem walk_FnMove (a0 : Option Addr) (len0 cap0 : Nat) (z0 : List Int) (w : World) (w0 : IsRow .u8 w a0 len0 cap0 z0) :
    Calls Try.prog 5 #[.slice a0 len0 cap0] w fun e w' => e = .returned (.bool true) ∧ Below w.heap.size w w' := by
  obtain ⟨bs, rfl, hr, hc, hm, hv⟩ := w0.bytes
  have hm' := hm
  unfold maxLen at hm'
  by_cases hbig : 1048576 < bs.length
  · go_enter Try.func5, Try.ntmps5
    go_wp2_with fail
    go_ret
    exact ⟨rfl, Below.refl _ _⟩
  have hbig' : bs.length ≤ 1048576 := by omega
  clear hbig
  go_enter Try.func5, Try.ntmps5
  go_wp2_with fail
  refine (DrawLineMove_calls _ _ bs _ hr hc hm hv).mono ?_
  rintro e w1 ⟨a, b, c, d, x, rfl, b1⟩
  have B0 := Lib.hid (b1)
  rcases hb : mvI a b c d x with ⟨m, _ | _⟩
  · obtain rfl := mvI_false hb
    have H := Lib.hid hb
    clear hb
    go_wp2_with fail
    refine (iLineMove_calls a b c d x _).mono ?_
    rintro e w1_ ⟨he, b1_⟩
    rw [H.out] at he
    dsimp only at he
    subst he
    have B1 := Lib.hid ((B0.out).trans (b1_.mono (B0.out).size))
    go_wp2_with fail
    refine (sLineMove_b a b c d x _).mono ?_
    rintro e w2_ ⟨he, b2_⟩
    rw [H.out] at he
    dsimp only at he
    subst he
    have B2 := Lib.hid ((B1.out).trans (b2_.mono (B1.out).size))
    go_wp2_with fail
    go_ret
    first | exact ⟨rfl, B2.out⟩ | exact ⟨rfl, by have hB := B2.out; simp only [World.drewN_drewN] at hB; exact hB⟩
  · obtain ⟨f1, b0, b2, c0, c2, a0, a2, d0, d2⟩ := mvI_true hb
    have H := Lib.hid hb
    rw [show (23 - b) % 23 = -b % 23 by omega, show (23 - c) % 23 = -c % 23 by omega] at f1
    have F1 := Lib.hid f1
    clear hb f1
    go_wp2_with fail
    refine (iLineMove_calls a b c d x _).mono ?_
    rintro e w1_ ⟨he, b1_⟩
    rw [H.out] at he
    dsimp only at he
    subst he
    have B1 := Lib.hid ((B0.out).trans (b1_.mono (B0.out).size))
    go_wp2_with fail
    refine (sLineMove_b a b c d x _).mono ?_
    rintro e w2_ ⟨he, b2_⟩
    rw [H.out] at he
    dsimp only at he
    subst he
    have B2 := Lib.hid ((B1.out).trans (b2_.mono (B1.out).size))
    go_wp2_with fail
    refine (iLineMove_calls d (-b % 23) (-c % 23) a m _).mono ?_
    rintro e w3_ ⟨he, b3_⟩
    rw [F1.out] at he
    dsimp only at he
    subst he
    have B3 := Lib.hid ((B2.out).trans (b3_.mono (B2.out).size))
    go_wp2_with fail
    go_ret
    first | exact ⟨rfl, B3.out⟩ | exact ⟨rfl, by have hB := B3.out; simp only [World.drewN_drewN] at hB; exact hB⟩
end Go.Proofs.Ytepaaijlkimmeaa
