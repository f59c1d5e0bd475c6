/- Residues and moves of the line by the model. -/
import Derived.Test.YtjceaiiheiechaaDoorC132
namespace Go.Proofs.YtjceaiiheiechaaDoor
open Go.RowKit
set_option linter.unusedVariables false

theorem tmod23 (n : Int) : -23 < n.tmod 23 ∧ n.tmod 23 < 23 ∧ (n.tmod 23 + 23).tmod 23 = n % 23 := by
  have hp : ∀ m : Int, 0 ≤ m → m.tmod 23 = m % 23 := fun m h => Int.tmod_eq_emod_of_nonneg h
  have h1 : -23 < n.tmod 23 ∧ n.tmod 23 < 23 ∧ ((n.tmod 23) - n) % 23 = 0 := by
    by_cases h : 0 ≤ n
    · rw [hp n h]; omega
    · have e : n.tmod 23 = -((-n) % 23) := by rw [← hp (-n) (by omega), Int.neg_tmod, Int.neg_neg]
      rw [e]; omega
  refine ⟨h1.1, h1.2.1, ?_⟩
  rw [hp _ (by omega)]
  omega
theorem l8Mod_calls (n : Int) (w : World) (h0 : -100000 ≤ n) (h1 : n ≤ 100000) :
    Calls Tryd.prog 33 #[.int .i64 n] w fun e w' => e = .returned (.int .i64 (n % 23)) ∧ w = w' := by
  obtain ⟨t0, t1, t2⟩ := tmod23 n
  go_enter Tryd.func33, Tryd.ntmps33
  go_wp2
  go_ret
  exact ⟨rfl, rfl⟩
theorem sq_none22 (r : R23) (h : ∀ j : Nat, j < 22 → (((j : Int) + 1) * ((j : Int) + 1)) % 23 ≠ r.val) : sqF r = false := by
  rw [← Bool.not_eq_true, sq_steps22, List.any_eq_true]
  rintro ⟨k, hk, e⟩
  simp only [beq_iff_eq] at e
  refine h k (List.mem_range.1 hk) ?_
  have : (((k + 1) * (k + 1) % 23 : Nat) : Int) = r.val := by rw [e]
  rw [← this]; simp
theorem sq_foundM (r : R23) (k : Nat) (hk : k < 22) (h : (((k : Int) + 1) * ((k : Int) + 1)) % 23 = r.val) : sqF r = true := by
  rw [sq_steps22, List.any_eq_true]
  refine ⟨k, List.mem_range.2 hk, ?_⟩
  have : (((k + 1) * (k + 1) % 23 : Nat) : Int) = r.val := by rw [← h]; simp
  simp only [beq_iff_eq]
  omega
theorem l8Square_calls (r : R23) (w : World) :
    Calls Tryd.prog 32 #[.int .i64 r.val] w fun e w' => e = .returned (.bool (sqF r)) ∧ w = w' := by
  obtain ⟨h0, h1⟩ := r_rng r
  have HF := Lib.hid (sq_foundM r)
  have HN := Lib.hid (sq_none22 r)
  generalize sqF r = b at *
  generalize (r.val : Int) = n at *
  go_enter Tryd.func32, Tryd.ntmps32
  go_wp2
  go_loopw [3] (fun x wr => ∃ k : Nat, k ≤ 22 ∧ x = .int .i64 ((k : Int) + 1) ∧ wr = w ∧ Hid (∀ j : Nat, j < k → (((j : Int) + 1) * ((j : Int) + 1)) % 23 ≠ n)) (fun x _ => 23 - (intOf x).toNat)
  case atStart => exact ⟨0, by omega, rfl, rfl, Lib.hid (fun j hj => absurd hj (Nat.not_lt_zero j))⟩
  case round =>
    obtain ⟨k, hk, rfl, rfl, hno⟩ := hrel
    by_cases hlt : k < 22
    · obtain ⟨m0, m1⟩ := mul_rng (a := (k : Int) + 1) (b := (k : Int) + 1) (by omega) (by omega) (by omega) (by omega)
      by_cases he : (((k : Int) + 1) * ((k : Int) + 1)) % 23 = n
      · have hb : b = true := HF.out k (by omega) he
        subst hb
        have he2 : ((((k : Int) + 1) * ((k : Int) + 1)) % 23 == n) = true := by simpa using he
        have hk1 : (k : Int) + 1 ≤ 22 := by omega
        have hk0 : 1 ≤ (k : Int) + 1 := by omega
        clear he hno HF HN hk hlt
        generalize (k : Int) + 1 = t at *
        go_wp2
        go_ret
        exact ⟨rfl, rfl⟩
      · have hn2 : Hid (∀ j : Nat, j < k + 1 → (((j : Int) + 1) * ((j : Int) + 1)) % 23 ≠ n) := Lib.hid (fun j hj => by
          by_cases e : j = k
          · subst e; exact he
          · exact hno.out j (by omega))
        have he2 : ((((k : Int) + 1) * ((k : Int) + 1)) % 23 == n) = false := by simpa using he
        have hk1 : (k : Int) + 1 ≤ 22 := by omega
        have hk0 : 1 ≤ (k : Int) + 1 := by omega
        clear he hno HF HN
        obtain ⟨t, ht⟩ : ∃ t, (k : Int) + 1 = t := ⟨_, rfl⟩
        rw [ht] at he2 hk0 hk1 m0 m1 ⊢
        have HT := Lib.hid ht
        clear ht
        go_wp2
        go_roundw
        case rel => exact ⟨k + 1, by omega, by rw [← HT.out]; go_num, by first | exact rfl | trivial, hn2⟩
        case measure => have ht := HT.out; simp [intOf]; omega
    · obtain rfl : k = 22 := by omega
      have hb : b = false := HN.out hno.out
      subst hb
      go_wp2
      go_ret
      exact ⟨rfl, rfl⟩
end Go.Proofs.YtjceaiiheiechaaDoor
