/- Two places: their word. -/
import Derived.Test.YtmeejnkpaiinaacGreatDoorM29
import Derived.Test.YtmeejnkpaiinaacGreatDoorQ1
import Derived.Test.YtmeejnkpaiinaacGreatDoorQ3
namespace Go.Proofs.YtmeejnkpaiinaacGreatDoor
open Go.RowKit
set_option linter.unusedVariables false
attribute [local irreducible] octS cN octF syn

theorem own_two (w : World) (p q : Int) : Own (w.alloc (.cells #[.int .i64 p, .int .i64 q] 3)) w.heap.size (.slice (some ⟨w.heap.size, 0, none⟩) 2 2) [p, q] :=
  ⟨rfl, .inr ⟨w.heap.size, 2, _, rfl, Nat.le_refl _, heap_alloc_new w _, Nat.le_refl _, by unfold maxLen; omega, rfl, rfl⟩⟩
theorem addPl_some (t p : Int) : addPl (some t) p = if 0 ≤ p ∧ p ≤ 23 ∧ bitI t p = 0 then some (t + powI p) else none := rfl
theorem wof_two (P Q : Nat) (hP : P < 24) (hQ : Q < 24) (h : P ≠ Q) : wof [(P : Int), (Q : Int)] = some ((2 ^ P ||| 2 ^ Q : Nat) : Int) := by
  have e1 : addPl (some 0) (P : Int) = some (powI (P : Int)) := by
    have h0 : bitI 0 (P : Int) = 0 := by unfold bitI; simp
    rw [addPl_some, if_pos ⟨by omega, by omega, h0⟩]
    simp
  have e2 : addPl (some (powI (P : Int))) (Q : Int) = some (powI (P : Int) + powI (Q : Int)) := by
    have h0 : bitI (powI (P : Int)) (Q : Int) = 0 := by
      rw [powI_nat, bitI_nat, bit_pow2]
      simp [h]
    rw [addPl_some, if_pos ⟨by omega, by omega, h0⟩]
  show addPl (addPl (some 0) (P : Int)) (Q : Int) = _
  rw [e1, e2, powI_or P Q h]
theorem wof_two_no (p q : Int) (h : ¬ ((0 ≤ p ∧ p ≤ 23) ∧ (0 ≤ q ∧ q ≤ 23) ∧ p ≠ q)) : wof [p, q] = none := by
  show addPl (addPl (some 0) p) q = none
  by_cases hp : 0 ≤ p ∧ p ≤ 23
  · obtain ⟨P, rfl⟩ := Int.eq_ofNat_of_zero_le hp.1
    have h0 : bitI 0 (P : Int) = 0 := by unfold bitI; simp
    have e1 : addPl (some 0) (P : Int) = some (powI (P : Int)) := by
      rw [addPl_some, if_pos ⟨by omega, by omega, h0⟩]
      simp
    rw [e1]
    rw [addPl_some]
    refine if_neg fun hh => h ⟨hp, ⟨hh.1, hh.2.1⟩, fun e => ?_⟩
    have := hh.2.2
    rw [← e, powI_nat, bitI_nat, bit_pow2] at this
    simp at this
  · have e1 : addPl (some 0) p = none := by
      rw [addPl_some]
      exact if_neg fun hh => hp ⟨hh.1, hh.2.1⟩
    rw [e1]
    rfl
theorem wrap_two (P Q : Nat) (hP : P < 24) (hQ : Q < 24) (h : P ≠ Q) : wrap64 (wrap64 ((2 : Int) ^ P) + wrap64 ((2 : Int) ^ Q)) = ((2 ^ P ||| 2 ^ Q : Nat) : Int) := by
  have h1 : 2 ^ P < 2 ^ 24 := Nat.pow_lt_pow_right (by omega) hP
  have h2 : 2 ^ Q < 2 ^ 24 := Nat.pow_lt_pow_right (by omega) hQ
  have e1 : ((2 : Int) ^ P) = ((2 ^ P : Nat) : Int) := by simp
  have e2 : ((2 : Int) ^ Q) = ((2 ^ Q : Nat) : Int) := by simp
  rw [← pow_or P Q h, e1, e2]
  generalize 2 ^ P = a at *
  generalize 2 ^ Q = b at *
  unfold wrap64
  omega
theorem or_lt24 (P Q : Nat) (hP : P < 24) (hQ : Q < 24) : 2 ^ P ||| 2 ^ Q < 16777216 := by
  have h1 : 2 ^ P < 2 ^ 24 := Nat.pow_lt_pow_right (by omega) hP
  have h2 : 2 ^ Q < 2 ^ 24 := Nat.pow_lt_pow_right (by omega) hQ
  exact Nat.or_lt_two_pow h1 h2
theorem qFrom_yes (A : Option Addr) (c : Nat) (xs : List Int) (lo hi t : Int) (w : World) (ha : Rds w w.heap.size .i64 A xs) (hx : xs.length ≤ maxLen) (h1 : lo ≤ xs.length) (h2 : xs.length ≤ hi) (ht : wof xs = some t) (t0 : 0 ≤ t) (t1 : t ≤ 16777215) :
    Calls Tryz.prog 71 #[.slice A xs.length c, .int .i64 lo, .int .i64 hi] w fun e w' => e = .returned (.tuple #[.int .u32 t, .bool true]) ∧ w = w' := by
  have hx' := hx
  unfold maxLen at hx'
  have hc : IntKind.u32.wrap t = t := wrap_u32_in t t0 (by omega)
  have HS := Lib.hid (iWordOf_calls A c xs w ha hx)
  rw [ht] at HS
  clear ht ha
  go_enter Tryz.func71, Tryz.ntmps71
  go_wp2_with (go_at_call 113; refine HS.out.mono ?_; rintro e w' ⟨he, rfl⟩; simp only [resW] at he; subst he)
  go_ret2
  exact ⟨rfl, rfl⟩
theorem qFrom_no (A : Option Addr) (c : Nat) (xs : List Int) (lo hi : Int) (w : World) (ha : Rds w w.heap.size .i64 A xs) (hx : xs.length ≤ maxLen) (h : (xs.length : Int) < lo ∨ hi < xs.length ∨ wof xs = none) :
    Calls Tryz.prog 71 #[.slice A xs.length c, .int .i64 lo, .int .i64 hi] w fun e w' => e = .returned (.tuple #[.int .u32 0, .bool false]) ∧ w = w' := by
  have hx' := hx
  unfold maxLen at hx'
  by_cases h1 : (xs.length : Int) < lo
  · clear h
    go_enter Tryz.func71, Tryz.ntmps71
    go_wp2_with fail
    go_ret2
    exact ⟨rfl, rfl⟩
  by_cases h2 : hi < (xs.length : Int)
  · clear h
    go_enter Tryz.func71, Tryz.ntmps71
    go_wp2_with fail
    go_ret2
    exact ⟨rfl, rfl⟩
  have h3 : wof xs = none := by
    rcases h with h | h | h
    · exact absurd h h1
    · exact absurd h h2
    · exact h
  have HS := Lib.hid (iWordOf_calls A c xs w ha hx)
  rw [h3] at HS
  clear h h3 ha
  go_enter Tryz.func71, Tryz.ntmps71
  go_wp2_with (go_at_call 113; refine HS.out.mono ?_; rintro e w' ⟨he, rfl⟩; simp only [resW] at he; subst he)
  go_ret2
  exact ⟨rfl, rfl⟩
end Go.Proofs.YtmeejnkpaiinaacGreatDoor
