/- Residues and moves of the line by the model. -/
import Derived.Test.YtepaaijlkimmeaaDoorC132
namespace Go.Proofs.YtepaaijlkimmeaaDoor
open Go.RowKit
set_option linter.unusedVariables false

theorem tmod23 (n : Int) : -23 < n.tmod 23 ∧ n.tmod 23 < 23 ∧ (n.tmod 23 + 23).tmod 23 = n % 23 := by
  have hp : ∀ m : Int, 0 ≤ m → m.tmod 23 = m % 23 := fun m h => Int.tmod_eq_emod_of_nonneg h
  have h1 : -23 < n.tmod 23 ∧ n.tmod 23 < 23 ∧ ((n.tmod 23) - n) % 23 = 0 := by
    by_cases h : 0 ≤ n
    · rw [hp n h]; omega
    · have e : n.tmod 23 = -((-n) % 23) := by rw [← hp (-n) (by omega), Int.neg_tmod, Int.neg_neg]
      rw [e]; omega
  refine ⟨h1.1, h1.2.1, ?_⟩
  rw [hp _ (by omega)]
  omega
theorem l8Mod_calls (n : Int) (w : World) (h0 : -100000 ≤ n) (h1 : n ≤ 100000) :
    Calls Tryd.prog 47 #[.int .i64 n] w fun e w' => e = .returned (.int .i64 (n % 23)) ∧ w = w' := by
  obtain ⟨t0, t1, t2⟩ := tmod23 n
  go_enter Tryd.func47, Tryd.ntmps47
  go_wp2
  go_ret
  exact ⟨rfl, rfl⟩
theorem l8Is_calls (n : Int) (w : World) :
    Calls Tryd.prog 38 #[.int .i64 n] w fun e w' => e = .returned (.bool (isR n)) ∧ w = w' := by
  by_cases h : 0 ≤ n ∧ n ≤ 22
  · rw [show isR n = true by simpa [isR] using h]
    go_enter Tryd.func38, Tryd.ntmps38
    go_wp2_with fail
    refine (l6In_ok n 0 22 _ h.1 h.2).mono ?_
    rintro e w' ⟨rfl, rfl⟩
    go_wp2_with fail
    go_ret
    exact ⟨rfl, rfl⟩
  · rw [isR_no (n := n) (by omega)]
    go_enter Tryd.func38, Tryd.ntmps38
    go_wp2_with fail
    refine (l6In_no n 0 22 _ (by omega)).mono ?_
    rintro e w' ⟨rfl, rfl⟩
    go_wp2_with fail
    go_ret
    exact ⟨rfl, rfl⟩
theorem sq_none22 (r : R23) (h : ∀ j : Nat, j < 22 → (((j : Int) + 1) * ((j : Int) + 1)) % 23 ≠ r.val) : sqF r = false := by
  rw [← Bool.not_eq_true, sq_steps22, List.any_eq_true]
  rintro ⟨k, hk, e⟩
  simp only [beq_iff_eq] at e
  refine h k (List.mem_range.1 hk) ?_
  have : (((k + 1) * (k + 1) % 23 : Nat) : Int) = r.val := by rw [e]
  rw [← this]; simp
theorem sq_foundM (r : R23) (k : Nat) (hk : k < 22) (h : (((k : Int) + 1) * ((k : Int) + 1)) % 23 = r.val) : sqF r = true := by
  rw [sq_steps22, List.any_eq_true]
  refine ⟨k, List.mem_range.2 hk, ?_⟩
  have : (((k + 1) * (k + 1) % 23 : Nat) : Int) = r.val := by rw [← h]; simp
  simp only [beq_iff_eq]
  omega
theorem l8Square_calls (r : R23) (w : World) :
    Calls Tryd.prog 55 #[.int .i64 r.val] w fun e w' => e = .returned (.bool (sqF r)) ∧ w = w' := by
  obtain ⟨h0, h1⟩ := r_rng r
  have HF := Lib.hid (sq_foundM r)
  have HN := Lib.hid (sq_none22 r)
  generalize sqF r = b at *
  generalize (r.val : Int) = n at *
  go_enter Tryd.func55, Tryd.ntmps55
  go_wp2
  go_loopw [3] (fun x wr => ∃ k : Nat, k ≤ 22 ∧ x = .int .i64 ((k : Int) + 1) ∧ wr = w ∧ Hid (∀ j : Nat, j < k → (((j : Int) + 1) * ((j : Int) + 1)) % 23 ≠ n)) (fun x _ => 23 - (intOf x).toNat)
  case atStart => exact ⟨0, by omega, rfl, rfl, Lib.hid (fun j hj => absurd hj (Nat.not_lt_zero j))⟩
  case round =>
    obtain ⟨k, hk, rfl, rfl, hno⟩ := hrel
    by_cases hlt : k < 22
    · obtain ⟨m0, m1⟩ := mul_rng (a := (k : Int) + 1) (b := (k : Int) + 1) (by omega) (by omega) (by omega) (by omega)
      by_cases he : (((k : Int) + 1) * ((k : Int) + 1)) % 23 = n
      · have hb : b = true := HF.out k (by omega) he
        subst hb
        have he2 : ((((k : Int) + 1) * ((k : Int) + 1)) % 23 == n) = true := by simpa using he
        have hk1 : (k : Int) + 1 ≤ 22 := by omega
        have hk0 : 1 ≤ (k : Int) + 1 := by omega
        clear he hno HF HN hk hlt
        generalize (k : Int) + 1 = t at *
        go_wp2
        go_ret
        exact ⟨rfl, rfl⟩
      · have hn2 : Hid (∀ j : Nat, j < k + 1 → (((j : Int) + 1) * ((j : Int) + 1)) % 23 ≠ n) := Lib.hid (fun j hj => by
          by_cases e : j = k
          · subst e; exact he
          · exact hno.out j (by omega))
        have he2 : ((((k : Int) + 1) * ((k : Int) + 1)) % 23 == n) = false := by simpa using he
        have hk1 : (k : Int) + 1 ≤ 22 := by omega
        have hk0 : 1 ≤ (k : Int) + 1 := by omega
        clear he hno HF HN
        obtain ⟨t, ht⟩ : ∃ t, (k : Int) + 1 = t := ⟨_, rfl⟩
        rw [ht] at he2 hk0 hk1 m0 m1 ⊢
        have HT := Lib.hid ht
        clear ht
        go_wp2
        go_roundw
        case rel => exact ⟨k + 1, by omega, by rw [← HT.out]; go_num, by first | exact rfl | trivial, hn2⟩
        case measure => have ht := HT.out; simp [intOf]; omega
    · obtain rfl : k = 22 := by omega
      have hb : b = false := HN.out hno.out
      subst hb
      go_wp2
      go_ret
      exact ⟨rfl, rfl⟩
theorem tn_foundM (r : R23) (k : Nat) (hk : k < 22) (h : (((k : Int) + 1) * (r.val : Int)) % 23 = 1) : ((tn r).val : Int) = (k : Int) + 1 := by
  have e : r * ⟨k + 1, by omega⟩ = 1 := by
    apply Fin.ext
    rw [Fin.val_mul]
    show r.val * (k + 1) % 23 = 1
    have h2 : (((k + 1) * r.val % 23 : Nat) : Int) = 1 := by rw [← h]; simp
    rw [Nat.mul_comm]
    omega
  rw [tn_is r _ e]
  show ((k + 1 : Nat) : Int) = _
  omega
theorem tn_noneM (r : R23) (h : ∀ j : Nat, j < 22 → (((j : Int) + 1) * (r.val : Int)) % 23 ≠ 1) : ((tn r).val : Int) = 0 := by
  have hr : r = 0 := Classical.byContradiction fun hr => by
    have e := tn_mul r hr
    have e2 := congrArg Fin.val e
    rw [Fin.val_mul] at e2
    have hne : (tn r).val ≠ 0 := fun h0 => by rw [h0] at e2; simp at e2
    have hlt := (tn r).isLt
    refine h ((tn r).val - 1) (by omega) ?_
    have h3 : (((tn r).val - 1 : Nat) : Int) + 1 = ((tn r).val : Int) := by omega
    rw [h3, Int.mul_comm]
    have : ((r.val * (tn r).val % 23 : Nat) : Int) = ((1 : R23).val : Int) := by rw [e2]
    simpa using this
  subst hr
  decide
theorem l8Turned_calls (r : R23) (w : World) :
    Calls Tryd.prog 48 #[.int .i64 r.val] w fun e w' => e = .returned (.int .i64 (tn r).val) ∧ w = w' := by
  obtain ⟨h0, h1⟩ := r_rng r
  have HF := Lib.hid (tn_foundM r)
  have HN := Lib.hid (tn_noneM r)
  generalize ((tn r).val : Int) = v at *
  generalize (r.val : Int) = n at *
  go_enter Tryd.func48, Tryd.ntmps48
  go_wp2
  go_loopw [3] (fun x wr => ∃ k : Nat, k ≤ 22 ∧ x = .int .i64 ((k : Int) + 1) ∧ wr = w ∧ Hid (∀ j : Nat, j < k → (((j : Int) + 1) * n) % 23 ≠ 1)) (fun x _ => 23 - (intOf x).toNat)
  case atStart => exact ⟨0, by omega, rfl, rfl, Lib.hid (fun j hj => absurd hj (Nat.not_lt_zero j))⟩
  case round =>
    obtain ⟨k, hk, rfl, rfl, hno⟩ := hrel
    by_cases hlt : k < 22
    · obtain ⟨m0, m1⟩ := mul_rng (a := (k : Int) + 1) (b := n) (by omega) (by omega) (by omega) (by omega)
      by_cases he : (((k : Int) + 1) * n) % 23 = 1
      · have hv := HF.out k hlt he
        subst hv
        have he2 : ((((k : Int) + 1) * n) % 23 == 1) = true := by simpa using he
        go_wp2
        go_ret
        exact ⟨rfl, rfl⟩
      · have hn2 : Hid (∀ j : Nat, j < k + 1 → (((j : Int) + 1) * n) % 23 ≠ 1) := Lib.hid (fun j hj => by
          by_cases e : j = k
          · subst e; exact he
          · exact hno.out j (by omega))
        have he2 : ((((k : Int) + 1) * n) % 23 == 1) = false := by simpa using he
        clear he hno
        go_wp2
        go_roundw
        case rel => exact ⟨k + 1, by omega, by go_num, by first | exact rfl | trivial, hn2⟩
        case measure => simp [intOf]; omega
    · obtain rfl : k = 22 := by omega
      have hv := HN.out hno.out
      subst hv
      go_wp2
      go_ret
      exact ⟨rfl, rfl⟩
end Go.Proofs.YtepaaijlkimmeaaDoor
