/- Residues of the program and of its model: sums, products, squares, what is turned. -/
import Derived.Test.YtepaaijlkimmeaaDoorQ1
import Derived.Test.YtepaaijlkimmeaaDoorM38
import Derived.Handy
namespace Go.Proofs.YtepaaijlkimmeaaDoor
open Go.RowKit
set_option linter.unusedVariables false

theorem r_rng (r : R23) : 0 ≤ (r.val : Int) ∧ (r.val : Int) ≤ 22 := ⟨by omega, by have := r.isLt; omega⟩
theorem val_add (r s : R23) : ((r + s).val : Int) = ((r.val : Int) + (s.val : Int)) % 23 := by rw [Fin.val_add]; omega
theorem val_mul (r s : R23) : ((r * s).val : Int) = ((r.val : Int) * (s.val : Int)) % 23 := by rw [Fin.val_mul]; simp
theorem val_sub (r s : R23) : ((r - s).val : Int) = ((r.val : Int) + (23 - (s.val : Int))) % 23 := by rw [Fin.val_sub]; have := s.isLt; omega
theorem mul_rng {a b : Int} (h0 : 0 ≤ a) (h1 : a ≤ 23) (h2 : 0 ≤ b) (h3 : b ≤ 23) : 0 ≤ a * b ∧ a * b ≤ 529 := by
  refine ⟨Int.mul_nonneg h0 h2, ?_⟩
  have := Int.mul_le_mul h1 h3 h2 (by decide)
  omega
theorem sq_steps : ∀ r : R23, sqF r = (List.range 11).any fun j => (j + 1) * (j + 1) % 23 == r.val := by decide
theorem sq_steps22 : ∀ r : R23, sqF r = (List.range 22).any fun j => (j + 1) * (j + 1) % 23 == r.val := by decide
theorem tn_is : ∀ r s : R23, r * s = 1 → tn r = s := by decide
theorem tn_zero : tn 0 = 0 := by decide

/-- A call that leaves the world as it is, in a region that draws. -/
theorem qsL {P : Program} {f : FuncId} {args : Array Value} {w : World} {n : Nat} {v : Value}
    (h : Calls P f args (w.drewN n) fun e w' => e = .returned v ∧ w.drewN n = w') : Calls P f args (w.drewN n) fun e w'' => e = .returned v ∧ ∃ m, w'' = w.drewN m :=
  h.mono fun _ _ ⟨he, hm⟩ => ⟨he, n, hm.symm⟩
theorem qsA {P : Program} {f : FuncId} {args : Array Value} {w : World} {a n : Nat} {v : Value}
    (h : Calls P f args (w.drewN (a + n)) fun e w' => e = .returned v ∧ w.drewN (a + n) = w') :
    Calls P f args (w.drewN (a + n)) fun e w'' => e = .returned v ∧ ∃ m, w'' = w.drewN (a + m) :=
  h.mono fun _ _ ⟨he, hm⟩ => ⟨he, n, hm.symm⟩

theorem resFrom_ok (r : R23) (w : World) :
    Calls Tryd.prog 32 #[.int .i64 r.val] w fun e w' => e = .returned (.tuple #[.int .i64 r.val, .bool true]) ∧ w = w' := by
  obtain ⟨h0, h1⟩ := r_rng r
  generalize (r.val : Int) = n at *
  go_enter Tryd.func32, Tryd.ntmps32
  go_wp2
  go_ret2
  exact ⟨rfl, rfl⟩
theorem resFrom_no (n : Int) (w : World) (h : n < 0 ∨ 22 < n) :
    Calls Tryd.prog 32 #[.int .i64 n] w fun e w' => e = .returned (.tuple #[.int .i64 0, .bool false]) ∧ w = w' := by
  rcases h with h | h
  · go_enter Tryd.func32, Tryd.ntmps32
    go_wp2
    go_ret2
    exact ⟨rfl, rfl⟩
  · have h' : ¬ n < 0 := by omega
    go_enter Tryd.func32, Tryd.ntmps32
    go_wp2
    go_ret2
    exact ⟨rfl, rfl⟩
theorem res_number (n : Int) (w : World) :
    Calls Tryd.prog 53 #[.int .i64 n] w fun e w' => e = .returned (.int .i64 n) ∧ w = w' := by
  go_enter Tryd.func53, Tryd.ntmps53
  go_wp2
  go_ret
  exact ⟨rfl, rfl⟩
theorem res_addI (a b : Int) (w : World) (h0 : 0 ≤ a) (h1 : a ≤ 23) (h2 : 0 ≤ b) (h3 : b ≤ 23) :
    Calls Tryd.prog 65 #[.int .i64 a, .int .i64 b] w fun e w' => e = .returned (.int .i64 ((a + b) % 23)) ∧ w = w' := by
  go_enter Tryd.func65, Tryd.ntmps65
  go_wp2
  go_ret
  exact ⟨rfl, rfl⟩
theorem res_add (r s : R23) (w : World) :
    Calls Tryd.prog 65 #[.int .i64 r.val, .int .i64 s.val] w fun e w' => e = .returned (.int .i64 (r + s).val) ∧ w = w' := by
  rw [val_add]
  have h1 := r_rng r
  have h2 := r_rng s
  exact res_addI _ _ w h1.1 (by omega) h2.1 (by omega)
theorem res_minus (r s : R23) (w : World) :
    Calls Tryd.prog 50 #[.int .i64 r.val, .int .i64 s.val] w fun e w' => e = .returned (.int .i64 (r - s).val) ∧ w = w' := by
  rw [val_sub]
  obtain ⟨h0, h1⟩ := r_rng r
  obtain ⟨h2, h3⟩ := r_rng s
  generalize (r.val : Int) = a at *
  generalize (s.val : Int) = b at *
  go_enter Tryd.func50, Tryd.ntmps50
  go_wp2_with (go_at_call 65; refine (res_addI a (23 - b) _ h0 (by omega) (by omega) (by omega)).mono ?_; rintro e w' ⟨rfl, rfl⟩)
  go_ret
  exact ⟨rfl, rfl⟩
theorem res_timesI (a b : Int) (w : World) (h0 : 0 ≤ a) (h1 : a ≤ 23) (h2 : 0 ≤ b) (h3 : b ≤ 23) :
    Calls Tryd.prog 49 #[.int .i64 a, .int .i64 b] w fun e w' => e = .returned (.int .i64 (a * b % 23)) ∧ w = w' := by
  obtain ⟨m0, m1⟩ := mul_rng h0 h1 h2 h3
  generalize hp : a * b = p at *
  go_enter Tryd.func49, Tryd.ntmps49
  go_wp2
  go_ret
  exact ⟨rfl, rfl⟩
theorem res_times (r s : R23) (w : World) :
    Calls Tryd.prog 49 #[.int .i64 r.val, .int .i64 s.val] w fun e w' => e = .returned (.int .i64 (r * s).val) ∧ w = w' := by
  rw [val_mul]
  have h1 := r_rng r
  have h2 := r_rng s
  exact res_timesI _ _ w h1.1 (by omega) h2.1 (by omega)
theorem sq_found (r : R23) (k : Nat) (hk : k < 22) (h : (((k : Int) + 1) * ((k : Int) + 1)) % 23 = r.val) : sqF r = true := by
  rw [sq_steps22, List.any_eq_true]
  refine ⟨k, List.mem_range.2 hk, ?_⟩
  have : (((k + 1) * (k + 1) % 23 : Nat) : Int) = r.val := by rw [← h]; simp
  simp only [beq_iff_eq]
  omega
theorem sq_none (r : R23) (h : ∀ j : Nat, j < 11 → (((j : Int) + 1) * ((j : Int) + 1)) % 23 ≠ r.val) : sqF r = false := by
  rw [← Bool.not_eq_true, sq_steps, List.any_eq_true]
  rintro ⟨k, hk, e⟩
  simp only [beq_iff_eq] at e
  refine h k (List.mem_range.1 hk) ?_
  have : (((k + 1) * (k + 1) % 23 : Nat) : Int) = r.val := by rw [e]
  rw [← this]; simp
theorem res_sq (r : R23) (w : World) :
    Calls Tryd.prog 51 #[.int .i64 r.val] w fun e w' => e = .returned (.bool (sqF r)) ∧ w = w' := by
  obtain ⟨h0, h1⟩ := r_rng r
  have HF := Lib.hid (sq_found r)
  have HN := Lib.hid (sq_none r)
  generalize sqF r = b at *
  generalize (r.val : Int) = n at *
  go_enter Tryd.func51, Tryd.ntmps51
  go_wp2
  go_loopw [3] (fun x wr => ∃ k : Nat, k ≤ 11 ∧ x = .int .i64 ((k : Int) + 1) ∧ wr = w ∧ Hid (∀ j : Nat, j < k → (((j : Int) + 1) * ((j : Int) + 1)) % 23 ≠ n)) (fun x _ => 12 - (intOf x).toNat)
  case atStart => exact ⟨0, by omega, rfl, rfl, Lib.hid (fun j hj => absurd hj (Nat.not_lt_zero j))⟩
  case round =>
    obtain ⟨k, hk, rfl, rfl, hno⟩ := hrel
    by_cases hlt : k < 11
    · by_cases he : (((k : Int) + 1) * ((k : Int) + 1)) % 23 = n
      · have hb : b = true := HF.out k (by omega) he
        subst hb
        have he2 : ((((k : Int) + 1) * ((k : Int) + 1)) % 23 == n) = true := by simpa using he
        go_wp2_with (go_at_call 49; refine (res_timesI _ _ _ (by omega) (by omega) (by omega) (by omega)).mono ?_; rintro e w' ⟨rfl, rfl⟩)
        go_ret
        exact ⟨rfl, rfl⟩
      · have hn2 : Hid (∀ j : Nat, j < k + 1 → (((j : Int) + 1) * ((j : Int) + 1)) % 23 ≠ n) := Lib.hid (fun j hj => by
          by_cases e : j = k
          · subst e; exact he
          · exact hno.out j (by omega))
        have he2 : ((((k : Int) + 1) * ((k : Int) + 1)) % 23 == n) = false := by simpa using he
        clear he hno
        go_wp2_with (go_at_call 49; refine (res_timesI _ _ _ (by omega) (by omega) (by omega) (by omega)).mono ?_; rintro e w' ⟨rfl, rfl⟩)
        go_roundw
        case rel => exact ⟨k + 1, by omega, by go_num, by first | exact rfl | trivial, hn2⟩
        case measure => simp [intOf]; omega
    · obtain rfl : k = 11 := by omega
      have hb : b = false := HN.out hno.out
      subst hb
      go_wp2
      go_ret
      exact ⟨rfl, rfl⟩
theorem tn_found (r : R23) (k : Nat) (hk : k < 23) (h : ((r.val : Int) * (k : Int)) % 23 = 1) : ((tn r).val : Int) = k ∧ (r != 0) = true := by
  have e : r * ⟨k, hk⟩ = 1 := by
    apply Fin.ext
    rw [Fin.val_mul]
    show r.val * k % 23 = 1
    have h2 : ((r.val * k % 23 : Nat) : Int) = 1 := by rw [← h]; simp
    omega
  refine ⟨by rw [tn_is r _ e], ?_⟩
  simp only [bne_iff_ne, ne_eq]
  rintro rfl
  rw [show (0 : R23) * ⟨k, hk⟩ = 0 by grobner] at e
  exact absurd e (by decide)
theorem tn_none (r : R23) (h : ∀ j : Nat, j < 23 → ((r.val : Int) * (j : Int)) % 23 ≠ 1) : ((tn r).val : Int) = 0 ∧ (r != 0) = false := by
  have hr : r = 0 := Classical.byContradiction fun hr => by
    have e := tn_mul r hr
    have e2 := congrArg Fin.val e
    rw [Fin.val_mul] at e2
    refine h (tn r).val (tn r).isLt ?_
    have : ((r.val * (tn r).val % 23 : Nat) : Int) = ((1 : R23).val : Int) := by rw [e2]
    simpa using this
  subst hr
  decide
theorem res_turned (r : R23) (w : World) :
    Calls Tryd.prog 71 #[.int .i64 r.val] w fun e w' => e = .returned (.tuple #[.int .i64 (tn r).val, .bool (r != 0)]) ∧ w = w' := by
  obtain ⟨h0, h1⟩ := r_rng r
  have HF := Lib.hid (tn_found r)
  have HN := Lib.hid (tn_none r)
  generalize (r != 0) = b at *
  generalize ((tn r).val : Int) = v at *
  generalize (r.val : Int) = n at *
  go_enter Tryd.func71, Tryd.ntmps71
  go_wp2
  go_loopw [5] (fun x wr => ∃ k : Nat, k ≤ 23 ∧ x = .int .i64 (k : Int) ∧ wr = w ∧ Hid (∀ j : Nat, j < k → (n * (j : Int)) % 23 ≠ 1)) (fun x _ => 23 - (intOf x).toNat)
  case atStart => exact ⟨0, by omega, rfl, rfl, Lib.hid (fun j hj => absurd hj (Nat.not_lt_zero j))⟩
  case round =>
    obtain ⟨k, hk, rfl, rfl, hno⟩ := hrel
    by_cases hlt : k < 23
    · by_cases he : (n * (k : Int)) % 23 = 1
      · obtain ⟨hv, hb⟩ := HF.out k hlt he
        subst hv hb
        have he2 : ((n * (k : Int)) % 23 == 1) = true := by simpa using he
        go_wp2_with (go_at_call 49; refine (res_timesI _ _ _ (by omega) (by omega) (by omega) (by omega)).mono ?_; rintro e w' ⟨rfl, rfl⟩)
        go_ret2
        exact ⟨rfl, rfl⟩
      · have hn2 : Hid (∀ j : Nat, j < k + 1 → (n * (j : Int)) % 23 ≠ 1) := Lib.hid (fun j hj => by
          by_cases e : j = k
          · subst e; exact he
          · exact hno.out j (by omega))
        have he2 : ((n * (k : Int)) % 23 == 1) = false := by simpa using he
        clear he hno
        go_wp2_with (go_at_call 49; refine (res_timesI _ _ _ (by omega) (by omega) (by omega) (by omega)).mono ?_; rintro e w' ⟨rfl, rfl⟩)
        go_roundw
        case rel => exact ⟨k + 1, by omega, by go_num, by first | exact rfl | trivial, hn2⟩
        case measure => simp [intOf]; omega
    · obtain rfl : k = 23 := by omega
      obtain ⟨hv, hb⟩ := HN.out hno.out
      subst hv hb
      go_wp2
      go_ret2
      exact ⟨rfl, rfl⟩
end Go.Proofs.YtepaaijlkimmeaaDoor
