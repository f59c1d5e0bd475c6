/- Vectors of the model: VectorValid, LatticeInner, LatticeShape. -/
import Derived.Test.YtiodikflmijhkaaQ3
import Derived.Test.YtiodikflmijhkaaQ4
import Derived.Test.YtiodikflmijhkaaC113
import Derived.Test.YtiodikflmijhkaaC159
import Derived.Test.YtiodikflmijhkaaM43
import Derived.BigQuiet
import Derived.Deep.RegionHeld3
import Derived.Deep.AppendLies
namespace Go.Proofs.Ytiodikflmijhkaa
open Go.RowKit
set_option linter.unusedVariables false
attribute [local irreducible] cN syn

def okTo (xs : List Int) : Nat → Bool
  | 0 => true
  | k + 1 => okTo xs k && okN (atL xs k)
theorem okTo_iff (xs : List Int) : ∀ k, okTo xs k = true ↔ ∀ p, p < k → okN (atL xs p) = true
  | 0 => by simp [okTo]
  | k + 1 => by
    rw [okTo, Bool.and_eq_true, okTo_iff xs k]
    constructor
    · rintro ⟨h1, h2⟩ p hp
      by_cases e : p = k
      · rw [e]; exact h2
      · exact h1 p (by omega)
    · exact fun h => ⟨fun p hp => h p (by omega), h k (by omega)⟩
theorem okTo_end (xs : List Int) (h : okTo xs xs.length = true) : vecB xs = decide (xs.length = 24) := by
  by_cases hl : xs.length = 24
  · rw [decide_eq_true hl]
    refine vecB_of hl fun p hp => ?_
    have := (okTo_iff xs _).1 h p (by omega)
    simpa [okN] using this
  · simp [vecB, hl]
theorem okTo_all (xs : List Int) (h : xs.length = 24) : okTo xs 24 = vecB xs := by
  rw [Bool.eq_iff_iff, okTo_iff]
  constructor
  · exact fun k => vecB_of h fun p hp => by have := k p hp; simpa [okN] using this
  · exact fun k p hp => by have := vecB_rng k p; simpa [okN] using this
theorem okTo_no (xs : List Int) (k : Nat) (hn : okN (atL xs k) = false) : vecB xs = false := by
  cases e : vecB xs
  · rfl
  · have := vecB_rng e k
    rw [show okN (atL xs k) = true by simpa [okN] using this] at hn
    cases hn
set_option maxHeartbeats 400000 in
theorem sVectorValid_calls (A : Option Addr) (c : Nat) (xs : List Int) (w : World) (ha : Rds w w.heap.size .i64 A xs) (hx : xs.length ≤ maxLen) :
    Calls Try.prog 10 #[.slice A xs.length c] w fun e w' => e = .returned (.bool (vecB xs)) ∧ w = w' := by
  unfold maxLen at hx
  have HNO := Lib.hid (okTo_no xs)
  have HEND := Lib.hid (okTo_end xs)
  go_enter Try.func10, Try.ntmps10
  go_wp2_with fail
  go_loopw [3] (fun i wr => ∃ k : Nat, k ≤ xs.length ∧ i = .int .i64 k ∧ Hid (okTo xs k = true) ∧ w = wr) (fun i _ => xs.length - (intOf i).toNat)
  case atStart => exact ⟨0, Nat.zero_le _, rfl, Lib.hid rfl, rfl⟩
  case round =>
    obtain ⟨k, hk, rfl, ho, hww⟩ := hrel
    subst hww
    by_cases hlt : k < xs.length
    · obtain ⟨b1, o1, rfl, _, c1⟩ := ha.at_ (j := k) hlt
      replace c1 : w.cell? ⟨b1, o1 + k, none⟩ = some (.int .i64 (atL xs k)) := c1
      have hkl : (k : Int) < (xs.length : Int) := by omega
      have HN := Lib.hid (HNO.out k)
      have HS := Lib.hid (show okN (atL xs k) = true → okTo xs (k + 1) = true by intro h; rw [okTo, ho.out, h]; rfl)
      generalize atL xs k = x at *
      by_cases hp : -100000 ≤ x ∧ x ≤ 100000
      · obtain ⟨hp0, hp1⟩ := hp
        have HS2 := Lib.hid (HS.out (by simp [okN]; omega))
        go_wp2_with (go_at_call 16; refine (l6In_ok _ _ _ _ (by omega) (by omega)).mono ?_; rintro e w' ⟨rfl, rfl⟩)
        go_roundw
        case rel => exact ⟨k + 1, by omega, by go_num, HS2, by first | exact rfl | trivial⟩
        case measure => simp [intOf]; omega
      · have hp' : x < -100000 ∨ 100000 < x := by omega
        have HN2 := Lib.hid (HN.out (by simp [okN]; omega))
        clear hp
        go_wp2_with (go_at_call 16; refine (l6In_no _ _ _ _ hp').mono ?_; rintro e w' ⟨rfl, rfl⟩)
        go_ret
        exact ⟨by rw [HN2.out]; rfl, rfl⟩
    · obtain rfl : k = xs.length := by omega
      have HE := Lib.hid (HEND.out ho.out)
      clear ho
      by_cases hl : xs.length = 24
      · have hl1 : ((xs.length : Int) == 24) = true := by simp [hl]
        have HE2 := Lib.hid (show vecB xs = true by rw [HE.out, decide_eq_true hl])
        clear hl
        go_wp2_with fail
        go_ret
        exact ⟨by rw [HE2.out]; rfl, rfl⟩
      · have hl1 : ((xs.length : Int) == 24) = false := by simp; omega
        have HE2 := Lib.hid (show vecB xs = false by rw [HE.out, decide_eq_false hl])
        clear hl
        go_wp2_with fail
        go_ret
        exact ⟨by rw [HE2.out]; rfl, rfl⟩
end Go.Proofs.Ytiodikflmijhkaa
