import Derived.Test.YtcfhfllcdliaoaaGreatDoorQ1
import Derived.Test.YtcfhfllcdliaoaaGreatDoorH1
import Derived.Handy
import Derived.Test.YtcfhfllcdliaoaaGreatDoorM11
import Derived.Deep.RegionHeld3
/- Residues of the program and of its model: sums, products, squares, what is turned. -/
namespace Go.Proofs.YtcfhfllcdliaoaaGreatDoor
open Go.RowKit
set_option linter.unusedVariables false

theorem r_rng (r : R23) : 0 ≤ (r.val : Int) ∧ (r.val : Int) ≤ 22 := ⟨by omega, by have := r.isLt; omega⟩
theorem val_add (r s : R23) : ((r + s).val : Int) = ((r.val : Int) + (s.val : Int)) % 23 := by rw [Fin.val_add]; omega
theorem val_mul (r s : R23) : ((r * s).val : Int) = ((r.val : Int) * (s.val : Int)) % 23 := by rw [Fin.val_mul]; simp
theorem val_sub (r s : R23) : ((r - s).val : Int) = ((r.val : Int) + (23 - (s.val : Int))) % 23 := by rw [Fin.val_sub]; have := s.isLt; omega
theorem mul_rng {a b : Int} (h0 : 0 ≤ a) (h1 : a ≤ 23) (h2 : 0 ≤ b) (h3 : b ≤ 23) : 0 ≤ a * b ∧ a * b ≤ 529 := by
  refine ⟨Int.mul_nonneg h0 h2, ?_⟩
  have := Int.mul_le_mul h1 h3 h2 (by decide)
  omega
theorem sq_steps : ∀ r : R23, sqF r = (List.range 11).any fun j => (j + 1) * (j + 1) % 23 == r.val := by decide
theorem sq_steps22 : ∀ r : R23, sqF r = (List.range 22).any fun j => (j + 1) * (j + 1) % 23 == r.val := by decide
theorem tn_is : ∀ r s : R23, r * s = 1 → tn r = s := by decide
theorem tn_zero : tn 0 = 0 := by decide

/-- A call that leaves the world as it is, in a region that draws. -/
theorem qsL {P : Program} {f : FuncId} {args : Array Value} {w : World} {n : Nat} {v : Value}
    (h : Calls P f args (w.drewN n) fun e w' => e = .returned v ∧ w.drewN n = w') : Calls P f args (w.drewN n) fun e w'' => e = .returned v ∧ ∃ m, w'' = w.drewN m :=
  h.mono fun _ _ ⟨he, hm⟩ => ⟨he, n, hm.symm⟩
theorem qsA {P : Program} {f : FuncId} {args : Array Value} {w : World} {a n : Nat} {v : Value}
    (h : Calls P f args (w.drewN (a + n)) fun e w' => e = .returned v ∧ w.drewN (a + n) = w') :
    Calls P f args (w.drewN (a + n)) fun e w'' => e = .returned v ∧ ∃ m, w'' = w.drewN (a + m) :=
  h.mono fun _ _ ⟨he, hm⟩ => ⟨he, n, hm.symm⟩

theorem resFrom_ok (r : R23) (w : World) :
    Calls Tryz.prog 180 #[.int .i64 r.val] w fun e w' => e = .returned (.tuple #[.int .i64 r.val, .bool true]) ∧ w = w' := by
  obtain ⟨h0, h1⟩ := r_rng r
  generalize (r.val : Int) = n at *
  go_enter Tryz.func180, Tryz.ntmps180
  go_wp2
  go_ret2
  exact ⟨rfl, rfl⟩
theorem resFrom_no (n : Int) (w : World) (h : n < 0 ∨ 22 < n) :
    Calls Tryz.prog 180 #[.int .i64 n] w fun e w' => e = .returned (.tuple #[.int .i64 0, .bool false]) ∧ w = w' := by
  rcases h with h | h
  · go_enter Tryz.func180, Tryz.ntmps180
    go_wp2
    go_ret2
    exact ⟨rfl, rfl⟩
  · have h' : ¬ n < 0 := by omega
    go_enter Tryz.func180, Tryz.ntmps180
    go_wp2
    go_ret2
    exact ⟨rfl, rfl⟩
theorem res_number (n : Int) (w : World) :
    Calls Tryz.prog 218 #[.int .i64 n] w fun e w' => e = .returned (.int .i64 n) ∧ w = w' := by
  go_enter Tryz.func218, Tryz.ntmps218
  go_wp2
  go_ret
  exact ⟨rfl, rfl⟩
theorem res_addI (a b : Int) (w : World) (h0 : 0 ≤ a) (h1 : a ≤ 23) (h2 : 0 ≤ b) (h3 : b ≤ 23) :
    Calls Tryz.prog 235 #[.int .i64 a, .int .i64 b] w fun e w' => e = .returned (.int .i64 ((a + b) % 23)) ∧ w = w' := by
  go_enter Tryz.func235, Tryz.ntmps235
  go_wp2
  go_ret
  exact ⟨rfl, rfl⟩
theorem res_add (r s : R23) (w : World) :
    Calls Tryz.prog 235 #[.int .i64 r.val, .int .i64 s.val] w fun e w' => e = .returned (.int .i64 (r + s).val) ∧ w = w' := by
  rw [val_add]
  have h1 := r_rng r
  have h2 := r_rng s
  exact res_addI _ _ w h1.1 (by omega) h2.1 (by omega)
theorem res_minus (r s : R23) (w : World) :
    Calls Tryz.prog 216 #[.int .i64 r.val, .int .i64 s.val] w fun e w' => e = .returned (.int .i64 (r - s).val) ∧ w = w' := by
  rw [val_sub]
  obtain ⟨h0, h1⟩ := r_rng r
  obtain ⟨h2, h3⟩ := r_rng s
  generalize (r.val : Int) = a at *
  generalize (s.val : Int) = b at *
  go_enter Tryz.func216, Tryz.ntmps216
  go_wp2_with (go_at_call 235; refine (res_addI a (23 - b) _ h0 (by omega) (by omega) (by omega)).mono ?_; rintro e w' ⟨rfl, rfl⟩)
  go_ret
  exact ⟨rfl, rfl⟩
theorem res_timesI (a b : Int) (w : World) (h0 : 0 ≤ a) (h1 : a ≤ 23) (h2 : 0 ≤ b) (h3 : b ≤ 23) :
    Calls Tryz.prog 236 #[.int .i64 a, .int .i64 b] w fun e w' => e = .returned (.int .i64 (a * b % 23)) ∧ w = w' := by
  obtain ⟨m0, m1⟩ := mul_rng h0 h1 h2 h3
  generalize hp : a * b = p at *
  go_enter Tryz.func236, Tryz.ntmps236
  go_wp2
  go_ret
  exact ⟨rfl, rfl⟩
theorem res_times (r s : R23) (w : World) :
    Calls Tryz.prog 236 #[.int .i64 r.val, .int .i64 s.val] w fun e w' => e = .returned (.int .i64 (r * s).val) ∧ w = w' := by
  rw [val_mul]
  have h1 := r_rng r
  have h2 := r_rng s
  exact res_timesI _ _ w h1.1 (by omega) h2.1 (by omega)
theorem sq_found (r : R23) (k : Nat) (hk : k < 22) (h : (((k : Int) + 1) * ((k : Int) + 1)) % 23 = r.val) : sqF r = true := by
  rw [sq_steps22, List.any_eq_true]
  refine ⟨k, List.mem_range.2 hk, ?_⟩
  have : (((k + 1) * (k + 1) % 23 : Nat) : Int) = r.val := by rw [← h]; simp
  simp only [beq_iff_eq]
  omega
theorem sq_none (r : R23) (h : ∀ j : Nat, j < 11 → (((j : Int) + 1) * ((j : Int) + 1)) % 23 ≠ r.val) : sqF r = false := by
  rw [← Bool.not_eq_true, sq_steps, List.any_eq_true]
  rintro ⟨k, hk, e⟩
  simp only [beq_iff_eq] at e
  refine h k (List.mem_range.1 hk) ?_
  have : (((k + 1) * (k + 1) % 23 : Nat) : Int) = r.val := by rw [e]
  rw [← this]; simp
theorem res_sq (r : R23) (w : World) :
    Calls Tryz.prog 217 #[.int .i64 r.val] w fun e w' => e = .returned (.bool (sqF r)) ∧ w = w' := by
  obtain ⟨h0, h1⟩ := r_rng r
  have HF := Lib.hid (sq_found r)
  have HN := Lib.hid (sq_none r)
  generalize sqF r = b at *
  generalize (r.val : Int) = n at *
  go_enter Tryz.func217, Tryz.ntmps217
  go_wp2
  go_loopw [3] (fun x wr => ∃ k : Nat, k ≤ 11 ∧ x = .int .i64 ((k : Int) + 1) ∧ wr = w ∧ Hid (∀ j : Nat, j < k → (((j : Int) + 1) * ((j : Int) + 1)) % 23 ≠ n)) (fun x _ => 12 - (intOf x).toNat)
  case atStart => exact ⟨0, by omega, rfl, rfl, Lib.hid (fun j hj => absurd hj (Nat.not_lt_zero j))⟩
  case round =>
    obtain ⟨k, hk, rfl, rfl, hno⟩ := hrel
    by_cases hlt : k < 11
    · by_cases he : (((k : Int) + 1) * ((k : Int) + 1)) % 23 = n
      · have hb : b = true := HF.out k (by omega) he
        subst hb
        have he2 : ((((k : Int) + 1) * ((k : Int) + 1)) % 23 == n) = true := by simpa using he
        go_wp2_with (go_at_call 236; refine (res_timesI _ _ _ (by omega) (by omega) (by omega) (by omega)).mono ?_; rintro e w' ⟨rfl, rfl⟩)
        go_ret
        exact ⟨rfl, rfl⟩
      · have hn2 : Hid (∀ j : Nat, j < k + 1 → (((j : Int) + 1) * ((j : Int) + 1)) % 23 ≠ n) := Lib.hid (fun j hj => by
          by_cases e : j = k
          · subst e; exact he
          · exact hno.out j (by omega))
        have he2 : ((((k : Int) + 1) * ((k : Int) + 1)) % 23 == n) = false := by simpa using he
        clear he hno
        go_wp2_with (go_at_call 236; refine (res_timesI _ _ _ (by omega) (by omega) (by omega) (by omega)).mono ?_; rintro e w' ⟨rfl, rfl⟩)
        go_roundw
        case rel => exact ⟨k + 1, by omega, by go_num, by first | exact rfl | trivial, hn2⟩
        case measure => simp [intOf]; omega
    · obtain rfl : k = 11 := by omega
      have hb : b = false := HN.out hno.out
      subst hb
      go_wp2
      go_ret
      exact ⟨rfl, rfl⟩
end Go.Proofs.YtcfhfllcdliaoaaGreatDoor
/- Moves of the line by the program. -/
namespace Go.Proofs.YtcfhfllcdliaoaaGreatDoor
open Go.RowKit
set_option linter.unusedVariables false

end Go.Proofs.YtcfhfllcdliaoaaGreatDoor
/- Moves of the line by the program: what is refused; the exported functions on plain numbers. -/
namespace Go.Proofs.YtcfhfllcdliaoaaGreatDoor
open Go.RowKit
set_option linter.unusedVariables false

def isR (n : Int) : Bool := decide (0 ≤ n ∧ n ≤ 22)
def rOf (n : Int) : R23 := Fin.ofNat 23 n.toNat
theorem rOf_val (r : R23) : rOf (r.val : Int) = r := by
  apply Fin.ext
  show (r.val : Int).toNat % 23 = r.val
  have := r.isLt
  omega
theorem isR_val (r : R23) : isR (r.val : Int) = true := by
  have := r_rng r
  simpa [isR] using this
theorem isR_no {n : Int} (h : n < 0 ∨ 22 < n) : isR n = false := by simp only [isR, decide_eq_false_iff_not]; omega
theorem r_or (n : Int) : (∃ r : R23, n = (r.val : Int)) ∨ (n < 0 ∨ 22 < n) := by
  by_cases h : 0 ≤ n ∧ n ≤ 22
  · exact .inl ⟨⟨n.toNat, by omega⟩, by show n = (n.toNat : Int); omega⟩
  · exact .inr (by omega)
/-- The answers of chapter 8 on plain numbers. -/
def sqI (n : Int) : Bool := isR n && sqF (rOf n)
def tnI (n : Int) : Int × Bool := if isR n && rOf n != 0 then ((tn (rOf n)).val, true) else (0, false)
def gvI (a b c d : Int) : Bool := isR a && isR b && isR c && isR d && sqF (rOf a * rOf d - rOf b * rOf c)
def mvI (a b c d x : Int) : Int × Bool := if gvI a b c d && decide (0 ≤ x ∧ x ≤ 23) then ((lpNo (lmF (rOf a) (rOf b) (rOf c) (rOf d) (lpOf x.toNat)) : Nat), true) else (0, false)
theorem gvI_val (a b c d : R23) : gvI a.val b.val c.val d.val = sqF (a * d - b * c) := by simp [gvI, isR_val, rOf_val]
theorem gvI_cases (a b c d : Int) : (∃ a' b' c' d' : R23, a = a'.val ∧ b = b'.val ∧ c = c'.val ∧ d = d'.val) ∨ (gvI a b c d = false ∧ ((a < 0 ∨ 22 < a) ∨ (∃ a' : R23, a = a'.val) ∧ (b < 0 ∨ 22 < b) ∨ (∃ a' b' : R23, a = a'.val ∧ b = b'.val) ∧ (c < 0 ∨ 22 < c) ∨ (∃ a' b' c' : R23, a = a'.val ∧ b = b'.val ∧ c = c'.val) ∧ (d < 0 ∨ 22 < d))) := by
  rcases r_or a with ⟨a', ha⟩ | ha
  · rcases r_or b with ⟨b', hb⟩ | hb
    · rcases r_or c with ⟨c', hc⟩ | hc
      · rcases r_or d with ⟨d', hd⟩ | hd
        · exact .inl ⟨a', b', c', d', ha, hb, hc, hd⟩
        · exact .inr ⟨by simp [gvI, isR_no hd], .inr (.inr (.inr ⟨⟨a', b', c', ha, hb, hc⟩, hd⟩))⟩
      · exact .inr ⟨by simp [gvI, isR_no hc], .inr (.inr (.inl ⟨⟨a', b', ha, hb⟩, hc⟩))⟩
    · exact .inr ⟨by simp [gvI, isR_no hb], .inr (.inl ⟨⟨a', ha⟩, hb⟩)⟩
  · exact .inr ⟨by simp [gvI, isR_no ha], .inl ha⟩
end Go.Proofs.YtcfhfllcdliaoaaGreatDoor
/- Residues and moves of the line by the model. -/
namespace Go.Proofs.YtcfhfllcdliaoaaGreatDoor
open Go.RowKit
set_option linter.unusedVariables false

theorem tmod23 (n : Int) : -23 < n.tmod 23 ∧ n.tmod 23 < 23 ∧ (n.tmod 23 + 23).tmod 23 = n % 23 := by
  have hp : ∀ m : Int, 0 ≤ m → m.tmod 23 = m % 23 := fun m h => Int.tmod_eq_emod_of_nonneg h
  have h1 : -23 < n.tmod 23 ∧ n.tmod 23 < 23 ∧ ((n.tmod 23) - n) % 23 = 0 := by
    by_cases h : 0 ≤ n
    · rw [hp n h]; omega
    · have e : n.tmod 23 = -((-n) % 23) := by rw [← hp (-n) (by omega), Int.neg_tmod, Int.neg_neg]
      rw [e]; omega
  refine ⟨h1.1, h1.2.1, ?_⟩
  rw [hp _ (by omega)]
  omega
theorem l8Mod_calls (n : Int) (w : World) (h0 : -100000 ≤ n) (h1 : n ≤ 100000) :
    Calls Tryz.prog 200 #[.int .i64 n] w fun e w' => e = .returned (.int .i64 (n % 23)) ∧ w = w' := by
  obtain ⟨t0, t1, t2⟩ := tmod23 n
  go_enter Tryz.func200, Tryz.ntmps200
  go_wp2
  go_ret
  exact ⟨rfl, rfl⟩
theorem l8Is_calls (n : Int) (w : World) :
    Calls Tryz.prog 150 #[.int .i64 n] w fun e w' => e = .returned (.bool (isR n)) ∧ w = w' := by
  by_cases h : 0 ≤ n ∧ n ≤ 22
  · rw [show isR n = true by simpa [isR] using h]
    go_enter Tryz.func150, Tryz.ntmps150
    go_wp2_with fail
    refine (l6In_ok n 0 22 _ h.1 h.2).mono ?_
    rintro e w' ⟨rfl, rfl⟩
    go_wp2_with fail
    go_ret
    exact ⟨rfl, rfl⟩
  · rw [isR_no (n := n) (by omega)]
    go_enter Tryz.func150, Tryz.ntmps150
    go_wp2_with fail
    refine (l6In_no n 0 22 _ (by omega)).mono ?_
    rintro e w' ⟨rfl, rfl⟩
    go_wp2_with fail
    go_ret
    exact ⟨rfl, rfl⟩
theorem sq_none22 (r : R23) (h : ∀ j : Nat, j < 22 → (((j : Int) + 1) * ((j : Int) + 1)) % 23 ≠ r.val) : sqF r = false := by
  rw [← Bool.not_eq_true, sq_steps22, List.any_eq_true]
  rintro ⟨k, hk, e⟩
  simp only [beq_iff_eq] at e
  refine h k (List.mem_range.1 hk) ?_
  have : (((k + 1) * (k + 1) % 23 : Nat) : Int) = r.val := by rw [e]
  rw [← this]; simp
theorem sq_foundM (r : R23) (k : Nat) (hk : k < 22) (h : (((k : Int) + 1) * ((k : Int) + 1)) % 23 = r.val) : sqF r = true := by
  rw [sq_steps22, List.any_eq_true]
  refine ⟨k, List.mem_range.2 hk, ?_⟩
  have : (((k + 1) * (k + 1) % 23 : Nat) : Int) = r.val := by rw [← h]; simp
  simp only [beq_iff_eq]
  omega
theorem l8Square_calls (r : R23) (w : World) :
    Calls Tryz.prog 199 #[.int .i64 r.val] w fun e w' => e = .returned (.bool (sqF r)) ∧ w = w' := by
  obtain ⟨h0, h1⟩ := r_rng r
  have HF := Lib.hid (sq_foundM r)
  have HN := Lib.hid (sq_none22 r)
  generalize sqF r = b at *
  generalize (r.val : Int) = n at *
  go_enter Tryz.func199, Tryz.ntmps199
  go_wp2
  go_loopw [3] (fun x wr => ∃ k : Nat, k ≤ 22 ∧ x = .int .i64 ((k : Int) + 1) ∧ wr = w ∧ Hid (∀ j : Nat, j < k → (((j : Int) + 1) * ((j : Int) + 1)) % 23 ≠ n)) (fun x _ => 23 - (intOf x).toNat)
  case atStart => exact ⟨0, by omega, rfl, rfl, Lib.hid (fun j hj => absurd hj (Nat.not_lt_zero j))⟩
  case round =>
    obtain ⟨k, hk, rfl, rfl, hno⟩ := hrel
    by_cases hlt : k < 22
    · obtain ⟨m0, m1⟩ := mul_rng (a := (k : Int) + 1) (b := (k : Int) + 1) (by omega) (by omega) (by omega) (by omega)
      by_cases he : (((k : Int) + 1) * ((k : Int) + 1)) % 23 = n
      · have hb : b = true := HF.out k (by omega) he
        subst hb
        have he2 : ((((k : Int) + 1) * ((k : Int) + 1)) % 23 == n) = true := by simpa using he
        have hk1 : (k : Int) + 1 ≤ 22 := by omega
        have hk0 : 1 ≤ (k : Int) + 1 := by omega
        clear he hno HF HN hk hlt
        generalize (k : Int) + 1 = t at *
        go_wp2
        go_ret
        exact ⟨rfl, rfl⟩
      · have hn2 : Hid (∀ j : Nat, j < k + 1 → (((j : Int) + 1) * ((j : Int) + 1)) % 23 ≠ n) := Lib.hid (fun j hj => by
          by_cases e : j = k
          · subst e; exact he
          · exact hno.out j (by omega))
        have he2 : ((((k : Int) + 1) * ((k : Int) + 1)) % 23 == n) = false := by simpa using he
        have hk1 : (k : Int) + 1 ≤ 22 := by omega
        have hk0 : 1 ≤ (k : Int) + 1 := by omega
        clear he hno HF HN
        obtain ⟨t, ht⟩ : ∃ t, (k : Int) + 1 = t := ⟨_, rfl⟩
        rw [ht] at he2 hk0 hk1 m0 m1 ⊢
        have HT := Lib.hid ht
        clear ht
        go_wp2
        go_roundw
        case rel => exact ⟨k + 1, by omega, by rw [← HT.out]; go_num, by first | exact rfl | trivial, hn2⟩
        case measure => have ht := HT.out; simp [intOf]; omega
    · obtain rfl : k = 22 := by omega
      have hb : b = false := HN.out hno.out
      subst hb
      go_wp2
      go_ret
      exact ⟨rfl, rfl⟩
end Go.Proofs.YtcfhfllcdliaoaaGreatDoor
/- The generators of the line code, and LineWord, of the program and of the model. -/
namespace Go.Proofs.YtcfhfllcdliaoaaGreatDoor
open Go.RowKit
set_option linter.unusedVariables false
attribute [local irreducible] cN syn

/-- The part of a generator below k, with the far place. -/
def gT (r : R23) : Nat → Nat
  | 0 => 8388608
  | k + 1 => if sqF (Fin.ofNat 23 k - r) then gT r k + 2 ^ k else gT r k
theorem gT_all : ∀ r : R23, gT r 23 = gL.getD r.val 0 := by decide +kernel
theorem gT_steps : ∀ r : R23, ∀ k : Fin 24, gT r k.val < 16777216 ∧ gT r k.val ^^^ 2 ^ k.val = gT r k.val + (if k.val = 23 then 0 else 2 ^ k.val) - (if k.val = 23 then 8388608 else 0) := by decide +kernel
theorem gT_rng (r : R23) (k : Nat) (h : k ≤ 23) : 0 ≤ ((gT r k : Nat) : Int) ∧ ((gT r k : Nat) : Int) ≤ 16777215 := by
  have := (gT_steps r ⟨k, by omega⟩).1
  have h2 : gT r k < 16777216 := this
  omega
theorem gT_xor (r : R23) (k : Nat) (h : k < 23) : xorI ((gT r k : Nat) : Int) (powI (k : Int)) = ((gT r k + 2 ^ k : Nat) : Int) := by
  have := (gT_steps r ⟨k, by omega⟩).2
  simp only [show ¬ k = 23 by omega, if_false, Nat.sub_zero] at this
  unfold xorI powI
  rw [Int.toNat_natCast, Int.toNat_natCast, show ((2 : Int) ^ k).toNat = 2 ^ k by rw [show (2 : Int) ^ k = ((2 ^ k : Nat) : Int) by simp]; exact Int.toNat_natCast _, this]
def lwI (n : Int) : Int × Bool := if isR n then ((gL.getD n.toNat 0 : Nat), true) else (0, false)
theorem lwI_val (r : R23) : lwI r.val = (((gL.getD r.val 0 : Nat) : Int), true) := by
  unfold lwI
  rw [isR_val, if_pos rfl, Int.toNat_natCast]
theorem res_minusI (a b : Int) (w : World) (h0 : 0 ≤ a) (h1 : a ≤ 22) (h2 : 0 ≤ b) (h3 : b ≤ 23) :
    Calls Tryz.prog 216 #[.int .i64 a, .int .i64 b] w fun e w' => e = .returned (.int .i64 ((a + (23 - b)) % 23)) ∧ w = w' := by
  go_enter Tryz.func216, Tryz.ntmps216
  go_wp2_with (go_at_call 235; refine (res_addI a (23 - b) _ h0 (by omega) (by omega) (by omega)).mono ?_; rintro e w' ⟨rfl, rfl⟩)
  go_ret
  exact ⟨rfl, rfl⟩
theorem res_gen_at (n : Int) (r : R23) (w : World) (n0 : 0 ≤ n) (n1 : n ≤ 23) (hn : ∀ k : R23, ((k.val : Int) + (23 - n)) % 23 = ((k - r).val : Int)) :
    Calls Tryz.prog 181 #[.int .i64 n] w fun e w' => e = .returned (.int .u32 (gL.getD r.val 0 : Nat)) ∧ w = w' := by
  have HAll := Lib.hid (gT_all r)
  have HM := Lib.hid (fun k : R23 => show ∀ W : World, Calls Tryz.prog 216 #[.int .i64 k.val, .int .i64 n] W fun e w' => e = .returned (.int .i64 (k - r).val) ∧ W = w' from fun W => by
    have h := res_minusI k.val n W (r_rng k).1 (r_rng k).2 n0 n1
    rwa [hn k] at h)
  clear hn
  have HQ := Lib.hid (fun k : R23 => res_sq (k - r))
  have HR := Lib.hid (gT_rng r)
  have HX := Lib.hid (gT_xor r)
  have HS := Lib.hid (fun k => show gT r (k + 1) = if sqF (Fin.ofNat 23 k - r) then gT r k + 2 ^ k else gT r k from rfl)
  go_enter Tryz.func181, Tryz.ntmps181
  go_wp2_with fail
  refine (wordAt_calls 23 _ (by omega) (by omega)).mono ?_
  rintro e w' ⟨rfl, rfl⟩
  go_wp2_with fail
  go_loopw [3, 6] (fun v x wr => ∃ k : Nat, k ≤ 23 ∧ v = .int .u32 (gT r k : Nat) ∧ x = .int .i64 (k : Int) ∧ wr = w) (fun _ x _ => 23 - (intOf x).toNat)
  case atStart => exact ⟨0, by omega, rfl, rfl, rfl⟩
  case round =>
    obtain ⟨k, hk, rfl, rfl, rfl⟩ := hrel
    by_cases hlt : k < 23
    · have hm := HM.out ⟨k, hlt⟩
      have hq := HQ.out ⟨k, hlt⟩
      rw [show (((⟨k, hlt⟩ : R23).val : Nat) : Int) = (k : Int) from rfl] at hm
      have hs := HS.out k
      rw [show (Fin.ofNat 23 k : R23) = ⟨k, hlt⟩ from Fin.ext (Nat.mod_eq_of_lt hlt)] at hs
      have hx := HX.out k hlt
      obtain ⟨g0, g1⟩ := HR.out k (by omega)
      have hp := powI_pos (k : Int)
      have hp2 := powI_le (k : Int) (by omega) (by omega)
      have k0 : 0 ≤ (k : Int) := by omega
      have k1 : (k : Int) < 23 := by omega
      generalize (((⟨k, hlt⟩ : R23) - r).val : Int) = z at *
      obtain ⟨g, hg⟩ : ∃ g, ((gT r k : Nat) : Int) = g := ⟨_, rfl⟩
      rcases hb : sqF ((⟨k, hlt⟩ : R23) - r) with _ | _
      · rw [hb] at hq hs
        simp only [Bool.false_eq_true, if_false] at hs
        have HN := Lib.hid (show g = ((gT r (k + 1) : Nat) : Int) by rw [hs, hg])
        rw [hg] at g0 g1 ⊢
        have H1 := Lib.hid hm
        have H2 := Lib.hid hq
        clear hm hq hs hb hx hg
        go_wp2_with fail
        refine (H1.out _).mono ?_
        rintro e w' ⟨rfl, rfl⟩
        go_wp2_with fail
        refine (H2.out _).mono ?_
        rintro e w' ⟨rfl, rfl⟩
        go_wp2_with fail
        go_roundw
        case rel => exact ⟨k + 1, by omega, by rw [HN.out], by go_num, by first | exact rfl | trivial⟩
        case measure => simp [intOf]; omega
      · rw [hb] at hq hs
        simp only [if_true] at hs
        have HN := Lib.hid (show xorI g (powI (k : Int)) = ((gT r (k + 1) : Nat) : Int) by rw [hs, ← hg]; exact hx)
        rw [hg] at g0 g1 ⊢
        have H1 := Lib.hid hm
        have H2 := Lib.hid hq
        clear hm hq hs hb hx hg
        go_wp2_with fail
        refine (H1.out _).mono ?_
        rintro e w' ⟨rfl, rfl⟩
        go_wp2_with fail
        refine (H2.out _).mono ?_
        rintro e w' ⟨rfl, rfl⟩
        go_wp2_with fail
        refine (res_number _ _).mono ?_
        rintro e w' ⟨rfl, rfl⟩
        go_wp2_with fail
        refine (wordAt_calls _ _ (by omega) (by omega)).mono ?_
        rintro e w' ⟨rfl, rfl⟩
        go_wp2_with fail
        refine (word_add _ _ _ g0 g1 (by omega) (by omega)).mono ?_
        rintro e w' ⟨rfl, rfl⟩
        go_wp2_with fail
        go_roundw
        case rel => exact ⟨k + 1, by omega, by rw [HN.out], by go_num, by first | exact rfl | trivial⟩
        case measure => simp [intOf]; omega
    · obtain rfl : k = 23 := by omega
      rw [HAll.out]
      go_wp2_with fail
      go_ret
      exact ⟨rfl, rfl⟩
theorem res_gen (r : R23) (w : World) :
    Calls Tryz.prog 181 #[.int .i64 r.val] w fun e w' => e = .returned (.int .u32 (gL.getD r.val 0 : Nat)) ∧ w = w' :=
  res_gen_at _ r w (r_rng r).1 (by have := r_rng r; omega) (fun k => (val_sub k r).symm)
/-- Of a place the number 23 stands for the residue 0. -/
theorem res_gen24 (x : Fin 24) (w : World) :
    Calls Tryz.prog 181 #[.int .i64 (x.val : Nat)] w fun e w' => e = .returned (.int .u32 (gL.getD (x.val % 23) 0 : Nat)) ∧ w = w' := by
  have hx := x.isLt
  have h := res_gen_at (x.val : Nat) (Fin.ofNat 23 x.val) w (by omega) (by omega) (fun k => by
    rw [val_sub]
    show _ = ((k.val : Int) + (23 - ((x.val % 23 : Nat) : Int))) % 23
    omega)
  exact h
theorem iLineWord_calls (n : Int) (w : World) :
    Calls Tryz.prog 128 #[.int .i64 n] w fun e w' => e = .returned (.tuple #[.int .i64 (lwI n).1, .bool (lwI n).2]) ∧ Below w.heap.size w w' := by
  rcases r_or n with ⟨r, rfl⟩ | h
  · have H1 := Lib.hid (resFrom_ok r)
    have H2 := Lib.hid (res_gen r)
    obtain ⟨g0, g1⟩ := gT_rng r 23 (Nat.le_refl _)
    rw [gT_all] at g0 g1
    rw [lwI_val]
    dsimp only
    generalize ((gL.getD r.val 0 : Nat) : Int) = g at *
    generalize (r.val : Int) = n at *
    go_enter Tryz.func128, Tryz.ntmps128
    go_wp2_with fail
    refine (H1.out _).mono ?_
    rintro e w' ⟨rfl, rfl⟩
    go_wp2_with fail
    refine (H2.out _).mono ?_
    rintro e w' ⟨rfl, rfl⟩
    go_wp2_with fail
    go_ret2
    exact ⟨rfl, Below.refl _ _⟩
  · rw [show lwI n = (0, false) by simp [lwI, isR_no h]]
    go_enter Tryz.func128, Tryz.ntmps128
    go_wp2_with fail
    refine (resFrom_no n _ h).mono ?_
    rintro e w' ⟨rfl, rfl⟩
    go_wp2_with fail
    go_ret2
    exact ⟨rfl, Below.refl _ _⟩
theorem l8Word_calls (r : R23) (w : World) :
    Calls Tryz.prog 151 #[.int .i64 r.val] w fun e w' => e = .returned (.int .i64 (gL.getD r.val 0 : Nat)) ∧ w = w' := by
  have HAll := Lib.hid (gT_all r)
  have HM := Lib.hid (fun (k : R23) => show ∀ W : World, Calls Tryz.prog 200 #[.int .i64 ((k.val : Int) - r.val)] W fun e w' => e = .returned (.int .i64 (k - r).val) ∧ W = w' from fun W => by
    have h1 := r_rng k
    have h2 := r_rng r
    have h := l8Mod_calls ((k.val : Int) - r.val) W (by omega) (by omega)
    rwa [show ((k.val : Int) - r.val) % 23 = ((k - r).val : Int) by rw [val_sub]; omega] at h)
  have HQ := Lib.hid (fun k : R23 => l8Square_calls (k - r))
  have HR := Lib.hid (gT_rng r)
  have HS := Lib.hid (fun k => show gT r (k + 1) = if sqF (Fin.ofNat 23 k - r) then gT r k + 2 ^ k else gT r k from rfl)
  go_enter Tryz.func151, Tryz.ntmps151
  go_wp2_with fail
  go_loopw [3, 4] (fun v x wr => ∃ k : Nat, k ≤ 23 ∧ v = .int .i64 (gT r k : Nat) ∧ x = .int .i64 (k : Int) ∧ wr = w) (fun _ x _ => 23 - (intOf x).toNat)
  case atStart => exact ⟨0, by omega, rfl, rfl, rfl⟩
  case round =>
    obtain ⟨k, hk, rfl, rfl, rfl⟩ := hrel
    by_cases hlt : k < 23
    · have hm := HM.out ⟨k, hlt⟩
      have hq := HQ.out ⟨k, hlt⟩
      rw [show (((⟨k, hlt⟩ : R23).val : Nat) : Int) = (k : Int) from rfl] at hm
      have hs := HS.out k
      rw [show (Fin.ofNat 23 k : R23) = ⟨k, hlt⟩ from Fin.ext (Nat.mod_eq_of_lt hlt)] at hs
      obtain ⟨g0, g1⟩ := HR.out k (by omega)
      obtain ⟨g2, g3⟩ := HR.out (k + 1) (by omega)
      obtain ⟨r0, r1⟩ := r_rng r
      have k0 : 0 ≤ (k : Int) := by omega
      have k1 : (k : Int) < 23 := by omega
      generalize (((⟨k, hlt⟩ : R23) - r).val : Int) = z at *
      generalize (r.val : Int) = rv at *
      obtain ⟨g, hg⟩ : ∃ g, ((gT r k : Nat) : Int) = g := ⟨_, rfl⟩
      rcases hb : sqF ((⟨k, hlt⟩ : R23) - r) with _ | _
      · rw [hb] at hq hs
        simp only [Bool.false_eq_true, if_false] at hs
        have HN := Lib.hid (show g = ((gT r (k + 1) : Nat) : Int) by rw [hs, hg])
        rw [hg] at g0 g1 ⊢
        have H1 := Lib.hid hm
        have H2 := Lib.hid hq
        clear hm hq hs hb hg g2 g3
        go_wp2_with fail
        refine (H1.out _).mono ?_
        rintro e w' ⟨rfl, rfl⟩
        go_wp2_with fail
        refine (H2.out _).mono ?_
        rintro e w' ⟨rfl, rfl⟩
        go_wp2_with fail
        go_roundw
        case rel => exact ⟨k + 1, by omega, by rw [HN.out], by go_num, by first | exact rfl | trivial⟩
        case measure => simp [intOf]; omega
      · rw [hb] at hq hs
        simp only [if_true] at hs
        have HN := Lib.hid (show g + powI (k : Int) = ((gT r (k + 1) : Nat) : Int) by rw [hs, ← hg]; unfold powI; simp)
        rw [hg] at g0 g1 ⊢
        rw [← HN.out] at g2 g3
        have H1 := Lib.hid hm
        have H2 := Lib.hid hq
        have hp := powI_pos (k : Int)
        have hp2 := powI_le (k : Int) (by omega) (by omega)
        have HP := Lib.hid (show (2 : Int) ^ k = powI (k : Int) by simp [powI])
        clear hm hq hs hb hg
        go_wp2_with fail
        refine (H1.out _).mono ?_
        rintro e w' ⟨rfl, rfl⟩
        go_wp2_with fail
        refine (H2.out _).mono ?_
        rintro e w' ⟨rfl, rfl⟩
        go_wp2_with fail
        go_roundw
        case rel => exact ⟨k + 1, by omega, by rw [HP.out, IntWalk.wrap64_in (powI (k : Int)) (by omega), IntWalk.wrap64_in _ (by omega), HN.out], by go_num, by first | exact rfl | trivial⟩
        case measure => simp [intOf]; omega
    · obtain rfl : k = 23 := by omega
      rw [HAll.out]
      go_wp2_with fail
      go_ret
      exact ⟨rfl, rfl⟩
theorem sLineWord_calls (n : Int) (w : World) :
    Calls Tryz.prog 108 #[.int .i64 n] w fun e w' => e = .returned (.tuple #[.int .i64 (lwI n).1, .bool (lwI n).2]) ∧ Below w.heap.size w w' := by
  have H0 := Lib.hid (l8Is_calls n)
  rcases r_or n with ⟨r, rfl⟩ | h
  · rw [isR_val] at H0
    have H2 := Lib.hid (l8Word_calls r)
    rw [lwI_val]
    dsimp only
    generalize ((gL.getD r.val 0 : Nat) : Int) = g at *
    generalize (r.val : Int) = n at *
    go_enter Tryz.func108, Tryz.ntmps108
    go_wp2_with fail
    refine (H0.out _).mono ?_
    rintro e w' ⟨rfl, rfl⟩
    go_wp2_with fail
    refine (H2.out _).mono ?_
    rintro e w' ⟨rfl, rfl⟩
    go_wp2_with fail
    go_ret2
    exact ⟨rfl, Below.refl _ _⟩
  · rw [isR_no h] at H0
    rw [show lwI n = (0, false) by simp [lwI, isR_no h]]
    go_enter Tryz.func108, Tryz.ntmps108
    go_wp2_with fail
    refine (H0.out _).mono ?_
    rintro e w' ⟨rfl, rfl⟩
    go_wp2_with fail
    go_ret2
    exact ⟨rfl, Below.refl _ _⟩
end Go.Proofs.YtcfhfllcdliaoaaGreatDoor