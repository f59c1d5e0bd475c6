/- Moves of the line by the model. -/
import Derived.Test.YtepaaijlkimmeaaDoorC133
namespace Go.Proofs.YtepaaijlkimmeaaDoor
open Go.RowKit
set_option linter.unusedVariables false

theorem det_val (a b c d : R23) : ((a.val : Int) * d.val - (b.val : Int) * c.val) % 23 = ((a * d - b * c).val : Int) := by
  rw [val_sub, val_mul, val_mul]
  omega
theorem lin_val (a b x : R23) : ((a.val : Int) * x.val + b.val) % 23 = ((a * x + b).val : Int) := by
  rw [val_add, val_mul]
  omega
theorem far_val (a b : R23) : ((a.val : Int) * 23 + b.val) % 23 = (b.val : Int) := by
  have := r_rng b
  omega
theorem ov_val (t b : R23) (h : b ≠ 0) : ((lpNo (ovF t b) : Nat) : Int) = (t.val : Int) * ((tn b).val : Int) % 23 := by
  unfold ovF
  rw [if_neg h]
  show ((t * tn b).val : Int) = _
  exact val_mul t (tn b)
theorem l8Given_calls (a b c d : Int) (w : World) :
    Calls Tryd.prog 28 #[.int .i64 a, .int .i64 b, .int .i64 c, .int .i64 d] w fun e w' => e = .returned (.bool (gvI a b c d)) ∧ w = w' := by
  rcases gvI_cases a b c d with ⟨a, b, c, d, rfl, rfl, rfl, rfl⟩ | ⟨hg, ha | ⟨⟨a, rfl⟩, hb⟩ | ⟨⟨a, b, rfl, rfl⟩, hc⟩ | ⟨⟨a, b, c, rfl, rfl, rfl⟩, hd⟩⟩
  · rw [gvI_val]
    have A := Lib.hid (l8Is_calls (a.val : Int))
    have B := Lib.hid (l8Is_calls (b.val : Int))
    have C := Lib.hid (l8Is_calls (c.val : Int))
    have D := Lib.hid (l8Is_calls (d.val : Int))
    rw [isR_val] at A B C D
    obtain ⟨a0, a1⟩ := r_rng a
    obtain ⟨b0, b1⟩ := r_rng b
    obtain ⟨c0, c1⟩ := r_rng c
    obtain ⟨d0, d1⟩ := r_rng d
    obtain ⟨p0, p1⟩ := mul_rng a0 (by omega) d0 (by omega)
    obtain ⟨q0, q1⟩ := mul_rng b0 (by omega) c0 (by omega)
    have M := Lib.hid (fun W => l8Mod_calls ((a.val : Int) * d.val - (b.val : Int) * c.val) W (by omega) (by omega))
    rw [det_val] at M
    have Q := Lib.hid (l8Square_calls (a * d - b * c))
    generalize sqF (a * d - b * c) = s at *
    generalize ((a * d - b * c).val : Int) = t at *
    generalize (a.val : Int) = a at *
    generalize (b.val : Int) = b at *
    generalize (c.val : Int) = c at *
    generalize (d.val : Int) = d at *
    go_enter Tryd.func28, Tryd.ntmps28
    go_wp2_with fail
    refine (A.out _).mono ?_
    rintro e w' ⟨rfl, rfl⟩
    go_wp2_with fail
    refine (B.out _).mono ?_
    rintro e w' ⟨rfl, rfl⟩
    go_wp2_with fail
    refine (C.out _).mono ?_
    rintro e w' ⟨rfl, rfl⟩
    go_wp2_with fail
    refine (D.out _).mono ?_
    rintro e w' ⟨rfl, rfl⟩
    go_wp2_with fail
    refine (M.out _).mono ?_
    rintro e w' ⟨rfl, rfl⟩
    go_wp2_with fail
    refine (Q.out _).mono ?_
    rintro e w' ⟨rfl, rfl⟩
    go_wp2_with fail
    go_ret
    exact ⟨rfl, rfl⟩
  · rw [hg]
    have A := Lib.hid (l8Is_calls a)
    rw [isR_no ha] at A
    clear hg ha
    go_enter Tryd.func28, Tryd.ntmps28
    go_wp2_with fail
    refine (A.out _).mono ?_
    rintro e w' ⟨rfl, rfl⟩
    go_wp2_with fail
    go_ret
    exact ⟨rfl, rfl⟩
  · rw [hg]
    have A := Lib.hid (l8Is_calls (a.val : Int))
    have B := Lib.hid (l8Is_calls b)
    rw [isR_val] at A
    rw [isR_no hb] at B
    clear hg hb
    go_enter Tryd.func28, Tryd.ntmps28
    go_wp2_with fail
    refine (A.out _).mono ?_
    rintro e w' ⟨rfl, rfl⟩
    go_wp2_with fail
    refine (B.out _).mono ?_
    rintro e w' ⟨rfl, rfl⟩
    go_wp2_with fail
    go_ret
    exact ⟨rfl, rfl⟩
  · rw [hg]
    have A := Lib.hid (l8Is_calls (a.val : Int))
    have B := Lib.hid (l8Is_calls (b.val : Int))
    have C := Lib.hid (l8Is_calls c)
    rw [isR_val] at A B
    rw [isR_no hc] at C
    clear hg hc
    go_enter Tryd.func28, Tryd.ntmps28
    go_wp2_with fail
    refine (A.out _).mono ?_
    rintro e w' ⟨rfl, rfl⟩
    go_wp2_with fail
    refine (B.out _).mono ?_
    rintro e w' ⟨rfl, rfl⟩
    go_wp2_with fail
    refine (C.out _).mono ?_
    rintro e w' ⟨rfl, rfl⟩
    go_wp2_with fail
    go_ret
    exact ⟨rfl, rfl⟩
  · rw [hg]
    have A := Lib.hid (l8Is_calls (a.val : Int))
    have B := Lib.hid (l8Is_calls (b.val : Int))
    have C := Lib.hid (l8Is_calls (c.val : Int))
    have D := Lib.hid (l8Is_calls d)
    rw [isR_val] at A B C
    rw [isR_no hd] at D
    clear hg hd
    go_enter Tryd.func28, Tryd.ntmps28
    go_wp2_with fail
    refine (A.out _).mono ?_
    rintro e w' ⟨rfl, rfl⟩
    go_wp2_with fail
    refine (B.out _).mono ?_
    rintro e w' ⟨rfl, rfl⟩
    go_wp2_with fail
    refine (C.out _).mono ?_
    rintro e w' ⟨rfl, rfl⟩
    go_wp2_with fail
    refine (D.out _).mono ?_
    rintro e w' ⟨rfl, rfl⟩
    go_wp2_with fail
    go_ret
    exact ⟨rfl, rfl⟩
theorem l8Move_calls (a b c d : R23) (y : Option R23) (w : World) :
    Calls Tryd.prog 29 #[.int .i64 a.val, .int .i64 b.val, .int .i64 c.val, .int .i64 d.val, .int .i64 (lpNo y : Nat)] w fun e w' => e = .returned (.int .i64 (lpNo (lmF a b c d y) : Nat)) ∧ w = w' := by
  obtain ⟨a0, a1⟩ := r_rng a
  obtain ⟨b0, b1⟩ := r_rng b
  obtain ⟨c0, c1⟩ := r_rng c
  obtain ⟨d0, d1⟩ := r_rng d
  cases y with
  | none =>
    rw [show ((lpNo none : Nat) : Int) = 23 from rfl, show lmF a b c d none = ovF a c from rfl]
    have M := Lib.hid (fun W => l8Mod_calls ((a.val : Int) * 23 + b.val) W (by omega) (by omega))
    have N := Lib.hid (fun W => l8Mod_calls ((c.val : Int) * 23 + d.val) W (by omega) (by omega))
    by_cases h0 : c = 0
    · subst h0
      rw [ov_none, show ((lpNo none : Nat) : Int) = 23 from rfl]
      rw [show ((0 : R23).val : Int) = 0 from rfl] at *
      simp only [Int.zero_mul, Int.zero_add] at N
      generalize (a.val : Int) = a at *
      generalize (b.val : Int) = b at *
      generalize (d.val : Int) = d at *
      go_enter Tryd.func29, Tryd.ntmps29
      go_wp2_with fail
      refine (M.out _).mono ?_
      rintro e w' ⟨rfl, rfl⟩
      go_wp2_with fail
      refine (N.out _).mono ?_
      rintro e w' ⟨rfl, rfl⟩
      go_wp2_with fail
      go_ret
      exact ⟨rfl, rfl⟩
    · have hn : ¬ (c.val : Int) = 0 := fun e => h0 (Fin.ext (show c.val = 0 by omega))
      have T := Lib.hid (l8Turned_calls c)
      have V := Lib.hid (ov_val a c h0)
      obtain ⟨t0, t1⟩ := r_rng (tn c)
      clear h0
      generalize ((lpNo (ovF a c) : Nat) : Int) = v at *
      generalize ((tn c).val : Int) = t at *
      generalize (a.val : Int) = a at *
      generalize (b.val : Int) = b at *
      generalize (c.val : Int) = c at *
      generalize (d.val : Int) = d at *
      obtain ⟨p0, p1⟩ := mul_rng a0 (by omega) t0 (by omega)
      go_enter Tryd.func29, Tryd.ntmps29
      go_wp2_with fail
      refine (M.out _).mono ?_
      rintro e w' ⟨rfl, rfl⟩
      go_wp2_with fail
      refine (N.out _).mono ?_
      rintro e w' ⟨rfl, rfl⟩
      go_wp2_with fail
      refine (T.out _).mono ?_
      rintro e w' ⟨rfl, rfl⟩
      go_wp2_with fail
      go_ret
      exact ⟨ret_i V.out.symm, rfl⟩
  | some x =>
    rw [show ((lpNo (some x) : Nat) : Int) = (x.val : Int) from rfl, show lmF a b c d (some x) = ovF (a * x + b) (c * x + d) from rfl]
    obtain ⟨x0, x1⟩ := r_rng x
    obtain ⟨p0, p1⟩ := mul_rng a0 (by omega) x0 (by omega)
    obtain ⟨q0, q1⟩ := mul_rng c0 (by omega) x0 (by omega)
    have M := Lib.hid (fun W => l8Mod_calls ((a.val : Int) * x.val + b.val) W (by omega) (by omega))
    have N := Lib.hid (fun W => l8Mod_calls ((c.val : Int) * x.val + d.val) W (by omega) (by omega))
    rw [lin_val] at M N
    have hx : ¬ (x.val : Int) = 23 := by omega
    generalize a * x + b = u at *
    generalize c * x + d = v at *
    by_cases h0 : v = 0
    · subst h0
      rw [ov_none, show ((lpNo none : Nat) : Int) = 23 from rfl]
      rw [show ((0 : R23).val : Int) = 0 from rfl] at *
      generalize (a.val : Int) = a at *
      generalize (b.val : Int) = b at *
      generalize (c.val : Int) = c at *
      generalize (d.val : Int) = d at *
      generalize (x.val : Int) = x at *
      go_enter Tryd.func29, Tryd.ntmps29
      go_wp2_with fail
      refine (M.out _).mono ?_
      rintro e w' ⟨rfl, rfl⟩
      go_wp2_with fail
      refine (N.out _).mono ?_
      rintro e w' ⟨rfl, rfl⟩
      go_wp2_with fail
      go_ret
      exact ⟨rfl, rfl⟩
    · have hn : ¬ (v.val : Int) = 0 := fun e => h0 (Fin.ext (show v.val = 0 by omega))
      have T := Lib.hid (l8Turned_calls v)
      have V := Lib.hid (ov_val u v h0)
      obtain ⟨t0, t1⟩ := r_rng (tn v)
      obtain ⟨u0, u1⟩ := r_rng u
      clear h0
      generalize ((lpNo (ovF u v) : Nat) : Int) = z at *
      generalize ((tn v).val : Int) = t at *
      generalize (a.val : Int) = a at *
      generalize (b.val : Int) = b at *
      generalize (c.val : Int) = c at *
      generalize (d.val : Int) = d at *
      generalize (x.val : Int) = x at *
      generalize (u.val : Int) = u at *
      generalize (v.val : Int) = v at *
      obtain ⟨k0, k1⟩ := mul_rng u0 (by omega) t0 (by omega)
      go_enter Tryd.func29, Tryd.ntmps29
      go_wp2_with fail
      refine (M.out _).mono ?_
      rintro e w' ⟨rfl, rfl⟩
      go_wp2_with fail
      refine (N.out _).mono ?_
      rintro e w' ⟨rfl, rfl⟩
      go_wp2_with fail
      refine (T.out _).mono ?_
      rintro e w' ⟨rfl, rfl⟩
      go_wp2_with fail
      go_ret
      exact ⟨ret_i V.out.symm, rfl⟩
end Go.Proofs.YtepaaijlkimmeaaDoor
