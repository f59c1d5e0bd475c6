/- The walk of promise 10: the next word of a weight has the next rank. -/
import Derived.Test.YtilankmidkikjaaDoorC12
import Derived.Test.YtilankmidkikjaaDoorC9
import Derived.Test.YtilankmidkikjaaDoorM9
namespace Go.Proofs.YtilankmidkikjaaDoor
open Go.RowKit
set_option linter.unusedVariables false

theorem rk_pl_nonneg (W : Nat) : 0 ≤ rk (pl W) ∧ rk (pl W) ≤ 40000000 := by
  have := rkT_range (pl W) (pl_lt W) (pl W).length (Nat.le_refl _) (pl_len W)
  have := pl_len W
  unfold rk
  omega
set_option maxHeartbeats 1000000 in
theorem walk_FnRank (a0 : Option Addr) (len0 cap0 : Nat) (z0 : List Int) (w : World) (w0 : IsRow .u8 w a0 len0 cap0 z0) (hT : Tab w) :
    Calls Tryd.prog 5 #[.slice a0 len0 cap0] w fun e w' => e = .returned (.bool true) ∧ Below w.heap.size w w' := by
  obtain ⟨bs, rfl, hr, hc, hm, hv⟩ := w0.bytes
  have hm' := hm
  unfold maxLen at hm'
  by_cases hbig : 1048576 < bs.length
  · go_enter Tryd.func5, Tryd.ntmps5
    go_wp2_with fail
    go_ret
    exact ⟨rfl, Below.refl _ _⟩
  · have hbig' : bs.length ≤ 1048576 := by omega
    go_enter Tryd.func5, Tryd.ntmps5
    go_wp2_with fail
    refine (DrawWordRank_calls _ _ bs _ hr hc hm hv).mono ?_
    rintro e w1 ⟨a, rfl, a0, a1, b1⟩
    rcases isW_or a with h | h
    · obtain ⟨W, rfl⟩ := Int.eq_ofNat_of_zero_le h.1
      obtain ⟨k0, k1⟩ := rk_pl_nonneg W
      go_wp2_with fail
      refine (iWordRank_ok _ _ h (hT.below b1 hT.lt)).mono ?_
      rintro e w2 ⟨rfl, b2⟩
      go_wp2_with fail
      refine (sWordRank_ok _ _ h).mono ?_
      rintro e w3 ⟨rfl, b3⟩
      have B3 : Below w.heap.size w w3 := b1.trans ((b2.trans (b3.mono b2.size)).mono b1.size)
      have T3 : Tab w3 := hT.below B3 hT.lt
      simp only [Int.toNat_natCast]
      by_cases hz : W = 0
      · subst hz
        generalize rk (pl 0) = V at *
        have k2 : decide (0 ≤ V) = true := by simpa using k0
        go_wp2_with fail
        go_ret
        exact ⟨rfl, B3⟩
      · obtain ⟨low, e1, l0, l1, hnext⟩ := next_rank W hz (by have := h.2; omega)
        have z1 : ((W : Int) == 0) = false := by simp; omega
        by_cases hup : W + low ≤ 16777215
        · obtain ⟨X, r, Z, e2, x1, e3, e4, z2, e5⟩ := hnext hup
          obtain ⟨Y, hY⟩ : ∃ Y : Nat, X / low = Y := ⟨_, rfl⟩
          have hY2 : Y ≤ X := by rw [← hY]; exact Nat.div_le_self _ _
          have e3a : (X : Int) / (low : Int) = (Y : Int) := by rw [← hY]; simp
          have e3b : (Y : Int) / 4 = (r : Int) := by rw [← e3, hY]; simp
          clear hY
          have E5 := Lib.hid e5
          have u1 : decide (16777215 < (W : Int) + (low : Int)) = false := by simp; omega
          clear e5 hnext e3 hz
          go_wp2_with (first | simp only [e1] | simp only [e2] | simp only [e3a] | simp only [e3b] | simp only [e4])
          refine (iWordRank_ok _ _ ⟨by omega, by omega⟩ T3).mono ?_
          rintro e w4 ⟨rfl, b4⟩
          rw [Int.toNat_natCast, E5.out]
          generalize rk (pl W) = V at *
          go_wp2_with fail
          go_ret
          exact ⟨rfl, B3.trans (b4.mono B3.size)⟩
        · have u1 : decide (16777215 < (W : Int) + (low : Int)) = true := by simp; omega
          have k2 : decide (0 ≤ rk (pl W)) = true := by simpa using k0
          clear hnext hz
          generalize rk (pl W) = V at *
          go_wp2_with (simp only [e1])
          go_ret
          exact ⟨rfl, B3⟩
    · go_wp2_with fail
      refine (iWordRank_no _ _ h).mono ?_
      rintro e w2 ⟨rfl, rfl⟩
      go_wp2_with fail
      refine (sWordRank_no _ _ h).mono ?_
      rintro e w3 ⟨rfl, rfl⟩
      go_wp2_with fail
      go_ret
      exact ⟨rfl, b1⟩
end Go.Proofs.YtilankmidkikjaaDoor
