/- The generators of the line code, and LineWord, of the program and of the model. -/
import Derived.Test.YtepaaijlkimmeaaDoorC133
import Derived.Test.YtepaaijlkimmeaaDoorM39
namespace Go.Proofs.YtepaaijlkimmeaaDoor
open Go.RowKit
set_option linter.unusedVariables false
attribute [local irreducible] cN syn

/-- The part of a generator below k, with the far place. -/
def gT (r : R23) : Nat → Nat
  | 0 => 8388608
  | k + 1 => if sqF (Fin.ofNat 23 k - r) then gT r k + 2 ^ k else gT r k
theorem gT_all : ∀ r : R23, gT r 23 = gL.getD r.val 0 := by decide +kernel
theorem gT_steps : ∀ r : R23, ∀ k : Fin 24, gT r k.val < 16777216 ∧ gT r k.val ^^^ 2 ^ k.val = gT r k.val + (if k.val = 23 then 0 else 2 ^ k.val) - (if k.val = 23 then 8388608 else 0) := by decide +kernel
theorem gT_rng (r : R23) (k : Nat) (h : k ≤ 23) : 0 ≤ ((gT r k : Nat) : Int) ∧ ((gT r k : Nat) : Int) ≤ 16777215 := by
  have := (gT_steps r ⟨k, by omega⟩).1
  have h2 : gT r k < 16777216 := this
  omega
theorem gT_xor (r : R23) (k : Nat) (h : k < 23) : xorI ((gT r k : Nat) : Int) (powI (k : Int)) = ((gT r k + 2 ^ k : Nat) : Int) := by
  have := (gT_steps r ⟨k, by omega⟩).2
  simp only [show ¬ k = 23 by omega, if_false, Nat.sub_zero] at this
  unfold xorI powI
  rw [Int.toNat_natCast, Int.toNat_natCast, show ((2 : Int) ^ k).toNat = 2 ^ k by rw [show (2 : Int) ^ k = ((2 ^ k : Nat) : Int) by simp]; exact Int.toNat_natCast _, this]
def lwI (n : Int) : Int × Bool := if isR n then ((gL.getD n.toNat 0 : Nat), true) else (0, false)
theorem lwI_val (r : R23) : lwI r.val = (((gL.getD r.val 0 : Nat) : Int), true) := by
  unfold lwI
  rw [isR_val, if_pos rfl, Int.toNat_natCast]
theorem res_minusI (a b : Int) (w : World) (h0 : 0 ≤ a) (h1 : a ≤ 22) (h2 : 0 ≤ b) (h3 : b ≤ 23) :
    Calls Tryd.prog 50 #[.int .i64 a, .int .i64 b] w fun e w' => e = .returned (.int .i64 ((a + (23 - b)) % 23)) ∧ w = w' := by
  go_enter Tryd.func50, Tryd.ntmps50
  go_wp2_with (go_at_call 65; refine (res_addI a (23 - b) _ h0 (by omega) (by omega) (by omega)).mono ?_; rintro e w' ⟨rfl, rfl⟩)
  go_ret
  exact ⟨rfl, rfl⟩
theorem res_gen_at (n : Int) (r : R23) (w : World) (n0 : 0 ≤ n) (n1 : n ≤ 23) (hn : ∀ k : R23, ((k.val : Int) + (23 - n)) % 23 = ((k - r).val : Int)) :
    Calls Tryd.prog 33 #[.int .i64 n] w fun e w' => e = .returned (.int .u32 (gL.getD r.val 0 : Nat)) ∧ w = w' := by
  have HAll := Lib.hid (gT_all r)
  have HM := Lib.hid (fun k : R23 => show ∀ W : World, Calls Tryd.prog 50 #[.int .i64 k.val, .int .i64 n] W fun e w' => e = .returned (.int .i64 (k - r).val) ∧ W = w' from fun W => by
    have h := res_minusI k.val n W (r_rng k).1 (r_rng k).2 n0 n1
    rwa [hn k] at h)
  clear hn
  have HQ := Lib.hid (fun k : R23 => res_sq (k - r))
  have HR := Lib.hid (gT_rng r)
  have HX := Lib.hid (gT_xor r)
  have HS := Lib.hid (fun k => show gT r (k + 1) = if sqF (Fin.ofNat 23 k - r) then gT r k + 2 ^ k else gT r k from rfl)
  go_enter Tryd.func33, Tryd.ntmps33
  go_wp2_with fail
  refine (wordAt_calls 23 _ (by omega) (by omega)).mono ?_
  rintro e w' ⟨rfl, rfl⟩
  go_wp2_with fail
  go_loopw [3, 6] (fun v x wr => ∃ k : Nat, k ≤ 23 ∧ v = .int .u32 (gT r k : Nat) ∧ x = .int .i64 (k : Int) ∧ wr = w) (fun _ x _ => 23 - (intOf x).toNat)
  case atStart => exact ⟨0, by omega, rfl, rfl, rfl⟩
  case round =>
    obtain ⟨k, hk, rfl, rfl, rfl⟩ := hrel
    by_cases hlt : k < 23
    · have hm := HM.out ⟨k, hlt⟩
      have hq := HQ.out ⟨k, hlt⟩
      rw [show (((⟨k, hlt⟩ : R23).val : Nat) : Int) = (k : Int) from rfl] at hm
      have hs := HS.out k
      rw [show (Fin.ofNat 23 k : R23) = ⟨k, hlt⟩ from Fin.ext (Nat.mod_eq_of_lt hlt)] at hs
      have hx := HX.out k hlt
      obtain ⟨g0, g1⟩ := HR.out k (by omega)
      have hp := powI_pos (k : Int)
      have hp2 := powI_le (k : Int) (by omega) (by omega)
      have k0 : 0 ≤ (k : Int) := by omega
      have k1 : (k : Int) < 23 := by omega
      generalize (((⟨k, hlt⟩ : R23) - r).val : Int) = z at *
      obtain ⟨g, hg⟩ : ∃ g, ((gT r k : Nat) : Int) = g := ⟨_, rfl⟩
      rcases hb : sqF ((⟨k, hlt⟩ : R23) - r) with _ | _
      · rw [hb] at hq hs
        simp only [Bool.false_eq_true, if_false] at hs
        have HN := Lib.hid (show g = ((gT r (k + 1) : Nat) : Int) by rw [hs, hg])
        rw [hg] at g0 g1 ⊢
        have H1 := Lib.hid hm
        have H2 := Lib.hid hq
        clear hm hq hs hb hx hg
        go_wp2_with fail
        refine (H1.out _).mono ?_
        rintro e w' ⟨rfl, rfl⟩
        go_wp2_with fail
        refine (H2.out _).mono ?_
        rintro e w' ⟨rfl, rfl⟩
        go_wp2_with fail
        go_roundw
        case rel => exact ⟨k + 1, by omega, by rw [HN.out], by go_num, by first | exact rfl | trivial⟩
        case measure => simp [intOf]; omega
      · rw [hb] at hq hs
        simp only [if_true] at hs
        have HN := Lib.hid (show xorI g (powI (k : Int)) = ((gT r (k + 1) : Nat) : Int) by rw [hs, ← hg]; exact hx)
        rw [hg] at g0 g1 ⊢
        have H1 := Lib.hid hm
        have H2 := Lib.hid hq
        clear hm hq hs hb hx hg
        go_wp2_with fail
        refine (H1.out _).mono ?_
        rintro e w' ⟨rfl, rfl⟩
        go_wp2_with fail
        refine (H2.out _).mono ?_
        rintro e w' ⟨rfl, rfl⟩
        go_wp2_with fail
        refine (res_number _ _).mono ?_
        rintro e w' ⟨rfl, rfl⟩
        go_wp2_with fail
        refine (wordAt_calls _ _ (by omega) (by omega)).mono ?_
        rintro e w' ⟨rfl, rfl⟩
        go_wp2_with fail
        refine (word_add _ _ _ g0 g1 (by omega) (by omega)).mono ?_
        rintro e w' ⟨rfl, rfl⟩
        go_wp2_with fail
        go_roundw
        case rel => exact ⟨k + 1, by omega, by rw [HN.out], by go_num, by first | exact rfl | trivial⟩
        case measure => simp [intOf]; omega
    · obtain rfl : k = 23 := by omega
      rw [HAll.out]
      go_wp2_with fail
      go_ret
      exact ⟨rfl, rfl⟩
theorem res_gen (r : R23) (w : World) :
    Calls Tryd.prog 33 #[.int .i64 r.val] w fun e w' => e = .returned (.int .u32 (gL.getD r.val 0 : Nat)) ∧ w = w' :=
  res_gen_at _ r w (r_rng r).1 (by have := r_rng r; omega) (fun k => (val_sub k r).symm)
/-- Of a place the number 23 stands for the residue 0. -/
theorem res_gen24 (x : Fin 24) (w : World) :
    Calls Tryd.prog 33 #[.int .i64 (x.val : Nat)] w fun e w' => e = .returned (.int .u32 (gL.getD (x.val % 23) 0 : Nat)) ∧ w = w' := by
  have hx := x.isLt
  have h := res_gen_at (x.val : Nat) (Fin.ofNat 23 x.val) w (by omega) (by omega) (fun k => by
    rw [val_sub]
    show _ = ((k.val : Int) + (23 - ((x.val % 23 : Nat) : Int))) % 23
    omega)
  exact h
theorem iLineWord_calls (n : Int) (w : World) :
    Calls Tryd.prog 12 #[.int .i64 n] w fun e w' => e = .returned (.tuple #[.int .i64 (lwI n).1, .bool (lwI n).2]) ∧ Below w.heap.size w w' := by
  rcases r_or n with ⟨r, rfl⟩ | h
  · have H1 := Lib.hid (resFrom_ok r)
    have H2 := Lib.hid (res_gen r)
    obtain ⟨g0, g1⟩ := gT_rng r 23 (Nat.le_refl _)
    rw [gT_all] at g0 g1
    rw [lwI_val]
    dsimp only
    generalize ((gL.getD r.val 0 : Nat) : Int) = g at *
    generalize (r.val : Int) = n at *
    go_enter Tryd.func12, Tryd.ntmps12
    go_wp2_with fail
    refine (H1.out _).mono ?_
    rintro e w' ⟨rfl, rfl⟩
    go_wp2_with fail
    refine (H2.out _).mono ?_
    rintro e w' ⟨rfl, rfl⟩
    go_wp2_with fail
    go_ret2
    exact ⟨rfl, Below.refl _ _⟩
  · rw [show lwI n = (0, false) by simp [lwI, isR_no h]]
    go_enter Tryd.func12, Tryd.ntmps12
    go_wp2_with fail
    refine (resFrom_no n _ h).mono ?_
    rintro e w' ⟨rfl, rfl⟩
    go_wp2_with fail
    go_ret2
    exact ⟨rfl, Below.refl _ _⟩
theorem l8Word_calls (r : R23) (w : World) :
    Calls Tryd.prog 39 #[.int .i64 r.val] w fun e w' => e = .returned (.int .i64 (gL.getD r.val 0 : Nat)) ∧ w = w' := by
  have HAll := Lib.hid (gT_all r)
  have HM := Lib.hid (fun (k : R23) => show ∀ W : World, Calls Tryd.prog 47 #[.int .i64 ((k.val : Int) - r.val)] W fun e w' => e = .returned (.int .i64 (k - r).val) ∧ W = w' from fun W => by
    have h1 := r_rng k
    have h2 := r_rng r
    have h := l8Mod_calls ((k.val : Int) - r.val) W (by omega) (by omega)
    rwa [show ((k.val : Int) - r.val) % 23 = ((k - r).val : Int) by rw [val_sub]; omega] at h)
  have HQ := Lib.hid (fun k : R23 => l8Square_calls (k - r))
  have HR := Lib.hid (gT_rng r)
  have HS := Lib.hid (fun k => show gT r (k + 1) = if sqF (Fin.ofNat 23 k - r) then gT r k + 2 ^ k else gT r k from rfl)
  go_enter Tryd.func39, Tryd.ntmps39
  go_wp2_with fail
  go_loopw [3, 4] (fun v x wr => ∃ k : Nat, k ≤ 23 ∧ v = .int .i64 (gT r k : Nat) ∧ x = .int .i64 (k : Int) ∧ wr = w) (fun _ x _ => 23 - (intOf x).toNat)
  case atStart => exact ⟨0, by omega, rfl, rfl, rfl⟩
  case round =>
    obtain ⟨k, hk, rfl, rfl, rfl⟩ := hrel
    by_cases hlt : k < 23
    · have hm := HM.out ⟨k, hlt⟩
      have hq := HQ.out ⟨k, hlt⟩
      rw [show (((⟨k, hlt⟩ : R23).val : Nat) : Int) = (k : Int) from rfl] at hm
      have hs := HS.out k
      rw [show (Fin.ofNat 23 k : R23) = ⟨k, hlt⟩ from Fin.ext (Nat.mod_eq_of_lt hlt)] at hs
      obtain ⟨g0, g1⟩ := HR.out k (by omega)
      obtain ⟨g2, g3⟩ := HR.out (k + 1) (by omega)
      obtain ⟨r0, r1⟩ := r_rng r
      have k0 : 0 ≤ (k : Int) := by omega
      have k1 : (k : Int) < 23 := by omega
      generalize (((⟨k, hlt⟩ : R23) - r).val : Int) = z at *
      generalize (r.val : Int) = rv at *
      obtain ⟨g, hg⟩ : ∃ g, ((gT r k : Nat) : Int) = g := ⟨_, rfl⟩
      rcases hb : sqF ((⟨k, hlt⟩ : R23) - r) with _ | _
      · rw [hb] at hq hs
        simp only [Bool.false_eq_true, if_false] at hs
        have HN := Lib.hid (show g = ((gT r (k + 1) : Nat) : Int) by rw [hs, hg])
        rw [hg] at g0 g1 ⊢
        have H1 := Lib.hid hm
        have H2 := Lib.hid hq
        clear hm hq hs hb hg g2 g3
        go_wp2_with fail
        refine (H1.out _).mono ?_
        rintro e w' ⟨rfl, rfl⟩
        go_wp2_with fail
        refine (H2.out _).mono ?_
        rintro e w' ⟨rfl, rfl⟩
        go_wp2_with fail
        go_roundw
        case rel => exact ⟨k + 1, by omega, by rw [HN.out], by go_num, by first | exact rfl | trivial⟩
        case measure => simp [intOf]; omega
      · rw [hb] at hq hs
        simp only [if_true] at hs
        have HN := Lib.hid (show g + powI (k : Int) = ((gT r (k + 1) : Nat) : Int) by rw [hs, ← hg]; unfold powI; simp)
        rw [hg] at g0 g1 ⊢
        rw [← HN.out] at g2 g3
        have H1 := Lib.hid hm
        have H2 := Lib.hid hq
        have hp := powI_pos (k : Int)
        have hp2 := powI_le (k : Int) (by omega) (by omega)
        have HP := Lib.hid (show (2 : Int) ^ k = powI (k : Int) by simp [powI])
        clear hm hq hs hb hg
        go_wp2_with fail
        refine (H1.out _).mono ?_
        rintro e w' ⟨rfl, rfl⟩
        go_wp2_with fail
        refine (H2.out _).mono ?_
        rintro e w' ⟨rfl, rfl⟩
        go_wp2_with fail
        go_roundw
        case rel => exact ⟨k + 1, by omega, by rw [HP.out, IntWalk.wrap64_in (powI (k : Int)) (by omega), IntWalk.wrap64_in _ (by omega), HN.out], by go_num, by first | exact rfl | trivial⟩
        case measure => simp [intOf]; omega
    · obtain rfl : k = 23 := by omega
      rw [HAll.out]
      go_wp2_with fail
      go_ret
      exact ⟨rfl, rfl⟩
theorem sLineWord_calls (n : Int) (w : World) :
    Calls Tryd.prog 16 #[.int .i64 n] w fun e w' => e = .returned (.tuple #[.int .i64 (lwI n).1, .bool (lwI n).2]) ∧ Below w.heap.size w w' := by
  have H0 := Lib.hid (l8Is_calls n)
  rcases r_or n with ⟨r, rfl⟩ | h
  · rw [isR_val] at H0
    have H2 := Lib.hid (l8Word_calls r)
    rw [lwI_val]
    dsimp only
    generalize ((gL.getD r.val 0 : Nat) : Int) = g at *
    generalize (r.val : Int) = n at *
    go_enter Tryd.func16, Tryd.ntmps16
    go_wp2_with fail
    refine (H0.out _).mono ?_
    rintro e w' ⟨rfl, rfl⟩
    go_wp2_with fail
    refine (H2.out _).mono ?_
    rintro e w' ⟨rfl, rfl⟩
    go_wp2_with fail
    go_ret2
    exact ⟨rfl, Below.refl _ _⟩
  · rw [isR_no h] at H0
    rw [show lwI n = (0, false) by simp [lwI, isR_no h]]
    go_enter Tryd.func16, Tryd.ntmps16
    go_wp2_with fail
    refine (H0.out _).mono ?_
    rintro e w' ⟨rfl, rfl⟩
    go_wp2_with fail
    go_ret2
    exact ⟨rfl, Below.refl _ _⟩
end Go.Proofs.YtepaaijlkimmeaaDoor
