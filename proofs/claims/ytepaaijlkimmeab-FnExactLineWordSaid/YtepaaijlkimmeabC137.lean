/- LinePerm, the generators and LineWord, of the program and of the model. -/
import Derived.Test.YtepaaijlkimmeabC134
import Derived.Test.YtepaaijlkimmeabC136
import Derived.Test.YtepaaijlkimmeabQ4
namespace Go.Proofs.Ytepaaijlkimmeab
open Go.RowKit
set_option linter.unusedVariables false
attribute [local irreducible] cN syn

def lpL (a b c d : Int) : List Int × Bool := if gvI a b c d then (lpI (rOf a) (rOf b) (rOf c) (rOf d), true) else ([], false)
theorem lpL_val (a b c d : R23) (h : sqF (a * d - b * c) = true) : lpL a.val b.val c.val d.val = (lpI a b c d, true) := by
  unfold lpL
  rw [gvI_val, h, if_pos rfl]
  simp [rOf_val]
theorem lpL_len (a b c d : Int) : (lpL a b c d).1.length ≤ 1048576 := by
  unfold lpL
  split
  · rw [lpI_len]; decide
  · exact Nat.zero_le _
set_option maxHeartbeats 1000000 in
theorem iLinePerm_calls (a b c d : Int) (w : World) :
    Calls Try.prog 6 #[.int .i64 a, .int .i64 b, .int .i64 c, .int .i64 d] w (GotL w (lpL a b c d).1 (lpL a b c d).2) := by
  rcases hg : gvI a b c d with _ | _
  · rw [show lpL a b c d = ([], false) by simp [lpL, hg]]
    obtain ⟨p, q, r, s, hv⟩ := lmFrom_bad a b c d w hg
    unfold lmV at hv
    have H := Lib.hid hv
    clear hv hg
    go_enter Try.func6, Try.ntmps6
    go_wp2_with fail
    refine H.out.mono ?_
    rintro e w1 ⟨rfl, b1⟩
    go_wp2_with fail
    go_ret2
    exact ⟨_, rfl, Own.nil_ _ _, b1.alloc b1.size _⟩
  · obtain ⟨a, b, c, d, rfl, rfl, rfl, rfl, hs⟩ := gvI_true hg
    rw [lpL_val a b c d hs]
    dsimp only
    have h1 := lmFrom_good a b c d w hs
    have h2 := lm_perm a b c d
    unfold lmV at h1 h2
    have H1 := Lib.hid h1
    have H2 := Lib.hid h2
    have H3 := Lib.hid (fun W => pmList_calls (lpI a b c d) W (lpI_len a b c d))
    clear h1 h2 hs hg
    generalize hts : lpI a b c d = ts at *
    clear hts
    go_enter Try.func6, Try.ntmps6
    go_wp2_with fail
    refine H1.out.mono ?_
    rintro e w1 ⟨rfl, b1⟩
    have B1 := Lib.hid (b1.alloc b1.size (.cells #[.int .i64 a.val, .int .i64 b.val, .int .i64 c.val, .int .i64 d.val] 34))
    clear b1
    go_wp2_with fail
    refine (H2.out _).mono ?_
    rintro e w2 ⟨rfl, b2⟩
    have B2 := Lib.hid (B1.out.trans (b2.mono B1.out.size))
    clear b2
    generalize VL ts = V at *
    go_wp2_with fail
    refine (H3.out _).mono ?_
    rintro e w3 ⟨v, rfl, o3, b3⟩
    have B3 := Lib.hid (B2.out.trans (b3.mono B2.out.size))
    have O3 := Lib.hid (o3.weak B2.out.size)
    clear b3 o3
    go_wp2_with fail
    go_ret2
    exact ⟨_, rfl, O3.out, B3.out⟩
set_option maxHeartbeats 1000000 in
theorem sLinePerm_calls (a b c d : Int) (w : World) :
    Calls Try.prog 5 #[.int .i64 a, .int .i64 b, .int .i64 c, .int .i64 d] w (GotL w (lpL a b c d).1 (lpL a b c d).2) := by
  have HE := Lib.hid (own_empty2 w w.heap.size (Nat.le_refl _))
  have G := Lib.hid (l8Given_calls a b c d)
  rcases hg : gvI a b c d with _ | _
  · rw [show lpL a b c d = ([], false) by simp [lpL, hg]]
    rw [hg] at G
    clear hg
    go_enter Try.func5, Try.ntmps5
    go_wp2_with fail
    refine (G.out _).mono ?_
    rintro e w' ⟨rfl, rfl⟩
    go_wp2_with fail
    go_ret2
    exact ⟨_, rfl, HE.out, (Below.refl _ _).alloc (Nat.le_refl _) _⟩
  · rw [hg] at G
    obtain ⟨a, b, c, d, rfl, rfl, rfl, rfl, hs⟩ := gvI_true hg
    rw [lpL_val a b c d hs]
    dsimp only
    have HMV := Lib.hid (fun (k : Nat) (hk : k < 24) (W : World) => show Calls Try.prog 13 #[.int .i64 a.val, .int .i64 b.val, .int .i64 c.val, .int .i64 d.val, .int .i64 (k : Int)] W fun e w' => e = .returned (.int .i64 ((lpI a b c d).getD k 0)) ∧ W = w' by
      have h := l8Move_calls a b c d (lpOf k) W
      rw [← lpI_get, lpNo_of k hk] at h
      exact h)
    have hl := lpI_len a b c d
    generalize lpI a b c d = zs at *
    have HST := Lib.hid (fun k (hk : k < 24) => show zs.take k ++ [zs.getD k 0] = zs.take (k + 1) from (take_succ_getD zs k (by omega)).symm)
    have HLX := Lib.hid hl
    clear hl hs hg
    generalize (a.val : Int) = a at *
    generalize (b.val : Int) = b at *
    generalize (c.val : Int) = c at *
    generalize (d.val : Int) = d at *
    go_enter Try.func5, Try.ntmps5
    go_wp2_with fail
    refine (G.out _).mono ?_
    rintro e w' ⟨rfl, rfl⟩
    go_wp2_with fail
    go_loopw [10, 11] (fun v i wr => ∃ k : Nat, k ≤ 24 ∧ i = .int .i64 k ∧ Hid (Own wr w.heap.size v (zs.take k)) ∧ Hid (Below w.heap.size w wr)) (fun _ i _ => 24 - (intOf i).toNat)
    case atStart => exact ⟨0, by omega, rfl, HE, Lib.hid ((Below.refl _ _).alloc (Nat.le_refl _) _)⟩
    case round =>
      obtain ⟨k, hk, rfl, ho, hb⟩ := hrel
      clear HE G
      by_cases hlt : k < 24
      · have HS := Lib.hid (HST.out k hlt)
        have hmv := HMV.out k hlt
        have k0 : 0 ≤ (k : Int) := by omega
        have k1 : (k : Int) < 24 := by omega
        have hlen : (zs.take k).length ≤ 24 := by rw [List.length_take]; omega
        generalize zs.getD k 0 = x at *
        have HM := Lib.hid hmv
        clear hmv HMV
        have hsz := hb.out.size
        go_wp2_with (first
          | (go_at_call 13; refine (HM.out _).mono ?_; rintro e w' ⟨rfl, rfl⟩)
          | (at_builtin; refine wpList_push rfl _ _ rfl wr w.heap.size _ _ _ _ rfl rfl (by exact ho.out) (by omega) hsz ?_; intro v2 w2 ho2 hb2 _))
        rw [HS.out] at ho2
        go_roundw
        case rel => exact ⟨k + 1, by omega, by go_num, Lib.hid ho2, Lib.hid (hb.out.trans hb2)⟩
        case measure => simp [intOf]; omega
      · obtain rfl : k = 24 := by omega
        have ho2 := ho.out
        rw [List.take_of_length_le (by rw [HLX.out]; omega)] at ho2
        have HO := Lib.hid ho2
        clear ho2 ho
        go_wp2
        go_ret2
        exact ⟨_, rfl, HO.out, hb.out⟩

/-- The part of a generator below k, with the far place. -/
def gT (r : R23) : Nat → Nat
  | 0 => 8388608
  | k + 1 => if sqF (Fin.ofNat 23 k - r) then gT r k + 2 ^ k else gT r k
theorem gT_all : ∀ r : R23, gT r 23 = gL.getD r.val 0 := by decide +kernel
theorem gT_steps : ∀ r : R23, ∀ k : Fin 24, gT r k.val < 16777216 ∧ gT r k.val ^^^ 2 ^ k.val = gT r k.val + (if k.val = 23 then 0 else 2 ^ k.val) - (if k.val = 23 then 8388608 else 0) := by decide +kernel
theorem gT_rng (r : R23) (k : Nat) (h : k ≤ 23) : 0 ≤ ((gT r k : Nat) : Int) ∧ ((gT r k : Nat) : Int) ≤ 16777215 := by
  have := (gT_steps r ⟨k, by omega⟩).1
  have h2 : gT r k < 16777216 := this
  omega
theorem gT_xor (r : R23) (k : Nat) (h : k < 23) : xorI ((gT r k : Nat) : Int) (powI (k : Int)) = ((gT r k + 2 ^ k : Nat) : Int) := by
  have := (gT_steps r ⟨k, by omega⟩).2
  simp only [show ¬ k = 23 by omega, if_false, Nat.sub_zero] at this
  unfold xorI powI
  rw [Int.toNat_natCast, Int.toNat_natCast, show ((2 : Int) ^ k).toNat = 2 ^ k by rw [show (2 : Int) ^ k = ((2 ^ k : Nat) : Int) by simp]; exact Int.toNat_natCast _, this]
def lwI (n : Int) : Int × Bool := if isR n then ((gL.getD n.toNat 0 : Nat), true) else (0, false)
theorem lwI_val (r : R23) : lwI r.val = (((gL.getD r.val 0 : Nat) : Int), true) := by
  unfold lwI
  rw [isR_val, if_pos rfl, Int.toNat_natCast]
theorem res_gen (r : R23) (w : World) :
    Calls Try.prog 20 #[.int .i64 r.val] w fun e w' => e = .returned (.int .u32 (gL.getD r.val 0 : Nat)) ∧ w = w' := by
  have HAll := Lib.hid (gT_all r)
  have HM := Lib.hid (fun k : R23 => res_minus k r)
  have HQ := Lib.hid (fun k : R23 => res_sq (k - r))
  have HR := Lib.hid (gT_rng r)
  have HX := Lib.hid (gT_xor r)
  have HS := Lib.hid (fun k => show gT r (k + 1) = if sqF (Fin.ofNat 23 k - r) then gT r k + 2 ^ k else gT r k from rfl)
  go_enter Try.func20, Try.ntmps20
  go_wp2_with fail
  refine (wordAt_calls 23 _ (by omega) (by omega)).mono ?_
  rintro e w' ⟨rfl, rfl⟩
  go_wp2_with fail
  go_loopw [3, 6] (fun v x wr => ∃ k : Nat, k ≤ 23 ∧ v = .int .u32 (gT r k : Nat) ∧ x = .int .i64 (k : Int) ∧ wr = w) (fun _ x _ => 23 - (intOf x).toNat)
  case atStart => exact ⟨0, by omega, rfl, rfl, rfl⟩
  case round =>
    obtain ⟨k, hk, rfl, rfl, rfl⟩ := hrel
    by_cases hlt : k < 23
    · have hm := HM.out ⟨k, hlt⟩
      have hq := HQ.out ⟨k, hlt⟩
      rw [show (((⟨k, hlt⟩ : R23).val : Nat) : Int) = (k : Int) from rfl] at hm
      have hs := HS.out k
      rw [show (Fin.ofNat 23 k : R23) = ⟨k, hlt⟩ from Fin.ext (Nat.mod_eq_of_lt hlt)] at hs
      have hx := HX.out k hlt
      obtain ⟨g0, g1⟩ := HR.out k (by omega)
      have hp := powI_pos (k : Int)
      have hp2 := powI_le (k : Int) (by omega) (by omega)
      have k0 : 0 ≤ (k : Int) := by omega
      have k1 : (k : Int) < 23 := by omega
      generalize (((⟨k, hlt⟩ : R23) - r).val : Int) = z at *
      obtain ⟨g, hg⟩ : ∃ g, ((gT r k : Nat) : Int) = g := ⟨_, rfl⟩
      rcases hb : sqF ((⟨k, hlt⟩ : R23) - r) with _ | _
      · rw [hb] at hq hs
        simp only [Bool.false_eq_true, if_false] at hs
        have HN := Lib.hid (show g = ((gT r (k + 1) : Nat) : Int) by rw [hs, hg])
        rw [hg] at g0 g1 ⊢
        have H1 := Lib.hid hm
        have H2 := Lib.hid hq
        clear hm hq hs hb hx hg
        go_wp2_with fail
        refine (H1.out _).mono ?_
        rintro e w' ⟨rfl, rfl⟩
        go_wp2_with fail
        refine (H2.out _).mono ?_
        rintro e w' ⟨rfl, rfl⟩
        go_wp2_with fail
        go_roundw
        case rel => exact ⟨k + 1, by omega, by rw [HN.out], by go_num, by first | exact rfl | trivial⟩
        case measure => simp [intOf]; omega
      · rw [hb] at hq hs
        simp only [if_true] at hs
        have HN := Lib.hid (show xorI g (powI (k : Int)) = ((gT r (k + 1) : Nat) : Int) by rw [hs, ← hg]; exact hx)
        rw [hg] at g0 g1 ⊢
        have H1 := Lib.hid hm
        have H2 := Lib.hid hq
        clear hm hq hs hb hx hg
        go_wp2_with fail
        refine (H1.out _).mono ?_
        rintro e w' ⟨rfl, rfl⟩
        go_wp2_with fail
        refine (H2.out _).mono ?_
        rintro e w' ⟨rfl, rfl⟩
        go_wp2_with fail
        refine (res_number _ _).mono ?_
        rintro e w' ⟨rfl, rfl⟩
        go_wp2_with fail
        refine (wordAt_calls _ _ (by omega) (by omega)).mono ?_
        rintro e w' ⟨rfl, rfl⟩
        go_wp2_with fail
        refine (word_add _ _ _ g0 g1 (by omega) (by omega)).mono ?_
        rintro e w' ⟨rfl, rfl⟩
        go_wp2_with fail
        go_roundw
        case rel => exact ⟨k + 1, by omega, by rw [HN.out], by go_num, by first | exact rfl | trivial⟩
        case measure => simp [intOf]; omega
    · obtain rfl : k = 23 := by omega
      rw [HAll.out]
      go_wp2_with fail
      go_ret
      exact ⟨rfl, rfl⟩
theorem iLineWord_calls (n : Int) (w : World) :
    Calls Try.prog 11 #[.int .i64 n] w fun e w' => e = .returned (.tuple #[.int .i64 (lwI n).1, .bool (lwI n).2]) ∧ Below w.heap.size w w' := by
  rcases r_or n with ⟨r, rfl⟩ | h
  · have H1 := Lib.hid (resFrom_ok r)
    have H2 := Lib.hid (res_gen r)
    obtain ⟨g0, g1⟩ := gT_rng r 23 (Nat.le_refl _)
    rw [gT_all] at g0 g1
    rw [lwI_val]
    dsimp only
    generalize ((gL.getD r.val 0 : Nat) : Int) = g at *
    generalize (r.val : Int) = n at *
    go_enter Try.func11, Try.ntmps11
    go_wp2_with fail
    refine (H1.out _).mono ?_
    rintro e w' ⟨rfl, rfl⟩
    go_wp2_with fail
    refine (H2.out _).mono ?_
    rintro e w' ⟨rfl, rfl⟩
    go_wp2_with fail
    go_ret2
    exact ⟨rfl, Below.refl _ _⟩
  · rw [show lwI n = (0, false) by simp [lwI, isR_no h]]
    go_enter Try.func11, Try.ntmps11
    go_wp2_with fail
    refine (resFrom_no n _ h).mono ?_
    rintro e w' ⟨rfl, rfl⟩
    go_wp2_with fail
    go_ret2
    exact ⟨rfl, Below.refl _ _⟩
theorem l8Word_calls (r : R23) (w : World) :
    Calls Try.prog 18 #[.int .i64 r.val] w fun e w' => e = .returned (.int .i64 (gL.getD r.val 0 : Nat)) ∧ w = w' := by
  have HAll := Lib.hid (gT_all r)
  have HM := Lib.hid (fun (k : R23) => show ∀ W : World, Calls Try.prog 22 #[.int .i64 ((k.val : Int) - r.val)] W fun e w' => e = .returned (.int .i64 (k - r).val) ∧ W = w' from fun W => by
    have h1 := r_rng k
    have h2 := r_rng r
    have h := l8Mod_calls ((k.val : Int) - r.val) W (by omega) (by omega)
    rwa [show ((k.val : Int) - r.val) % 23 = ((k - r).val : Int) by rw [val_sub]; omega] at h)
  have HQ := Lib.hid (fun k : R23 => l8Square_calls (k - r))
  have HR := Lib.hid (gT_rng r)
  have HS := Lib.hid (fun k => show gT r (k + 1) = if sqF (Fin.ofNat 23 k - r) then gT r k + 2 ^ k else gT r k from rfl)
  go_enter Try.func18, Try.ntmps18
  go_wp2_with fail
  go_loopw [3, 4] (fun v x wr => ∃ k : Nat, k ≤ 23 ∧ v = .int .i64 (gT r k : Nat) ∧ x = .int .i64 (k : Int) ∧ wr = w) (fun _ x _ => 23 - (intOf x).toNat)
  case atStart => exact ⟨0, by omega, rfl, rfl, rfl⟩
  case round =>
    obtain ⟨k, hk, rfl, rfl, rfl⟩ := hrel
    by_cases hlt : k < 23
    · have hm := HM.out ⟨k, hlt⟩
      have hq := HQ.out ⟨k, hlt⟩
      rw [show (((⟨k, hlt⟩ : R23).val : Nat) : Int) = (k : Int) from rfl] at hm
      have hs := HS.out k
      rw [show (Fin.ofNat 23 k : R23) = ⟨k, hlt⟩ from Fin.ext (Nat.mod_eq_of_lt hlt)] at hs
      obtain ⟨g0, g1⟩ := HR.out k (by omega)
      obtain ⟨g2, g3⟩ := HR.out (k + 1) (by omega)
      obtain ⟨r0, r1⟩ := r_rng r
      have k0 : 0 ≤ (k : Int) := by omega
      have k1 : (k : Int) < 23 := by omega
      generalize (((⟨k, hlt⟩ : R23) - r).val : Int) = z at *
      generalize (r.val : Int) = rv at *
      obtain ⟨g, hg⟩ : ∃ g, ((gT r k : Nat) : Int) = g := ⟨_, rfl⟩
      rcases hb : sqF ((⟨k, hlt⟩ : R23) - r) with _ | _
      · rw [hb] at hq hs
        simp only [Bool.false_eq_true, if_false] at hs
        have HN := Lib.hid (show g = ((gT r (k + 1) : Nat) : Int) by rw [hs, hg])
        rw [hg] at g0 g1 ⊢
        have H1 := Lib.hid hm
        have H2 := Lib.hid hq
        clear hm hq hs hb hg g2 g3
        go_wp2_with fail
        refine (H1.out _).mono ?_
        rintro e w' ⟨rfl, rfl⟩
        go_wp2_with fail
        refine (H2.out _).mono ?_
        rintro e w' ⟨rfl, rfl⟩
        go_wp2_with fail
        go_roundw
        case rel => exact ⟨k + 1, by omega, by rw [HN.out], by go_num, by first | exact rfl | trivial⟩
        case measure => simp [intOf]; omega
      · rw [hb] at hq hs
        simp only [if_true] at hs
        have HN := Lib.hid (show g + powI (k : Int) = ((gT r (k + 1) : Nat) : Int) by rw [hs, ← hg]; unfold powI; simp)
        rw [hg] at g0 g1 ⊢
        rw [← HN.out] at g2 g3
        have H1 := Lib.hid hm
        have H2 := Lib.hid hq
        have hp := powI_pos (k : Int)
        have hp2 := powI_le (k : Int) (by omega) (by omega)
        have HP := Lib.hid (show (2 : Int) ^ k = powI (k : Int) by simp [powI])
        clear hm hq hs hb hg
        go_wp2_with fail
        refine (H1.out _).mono ?_
        rintro e w' ⟨rfl, rfl⟩
        go_wp2_with fail
        refine (H2.out _).mono ?_
        rintro e w' ⟨rfl, rfl⟩
        go_wp2_with fail
        go_roundw
        case rel => exact ⟨k + 1, by omega, by rw [HP.out, IntWalk.wrap64_in (powI (k : Int)) (by omega), IntWalk.wrap64_in _ (by omega), HN.out], by go_num, by first | exact rfl | trivial⟩
        case measure => simp [intOf]; omega
    · obtain rfl : k = 23 := by omega
      rw [HAll.out]
      go_wp2_with fail
      go_ret
      exact ⟨rfl, rfl⟩
theorem sLineWord_calls (n : Int) (w : World) :
    Calls Try.prog 10 #[.int .i64 n] w fun e w' => e = .returned (.tuple #[.int .i64 (lwI n).1, .bool (lwI n).2]) ∧ Below w.heap.size w w' := by
  have H0 := Lib.hid (l8Is_calls n)
  rcases r_or n with ⟨r, rfl⟩ | h
  · rw [isR_val] at H0
    have H2 := Lib.hid (l8Word_calls r)
    rw [lwI_val]
    dsimp only
    generalize ((gL.getD r.val 0 : Nat) : Int) = g at *
    generalize (r.val : Int) = n at *
    go_enter Try.func10, Try.ntmps10
    go_wp2_with fail
    refine (H0.out _).mono ?_
    rintro e w' ⟨rfl, rfl⟩
    go_wp2_with fail
    refine (H2.out _).mono ?_
    rintro e w' ⟨rfl, rfl⟩
    go_wp2_with fail
    go_ret2
    exact ⟨rfl, Below.refl _ _⟩
  · rw [isR_no h] at H0
    rw [show lwI n = (0, false) by simp [lwI, isR_no h]]
    go_enter Try.func10, Try.ntmps10
    go_wp2_with fail
    refine (H0.out _).mono ?_
    rintro e w' ⟨rfl, rfl⟩
    go_wp2_with fail
    go_ret2
    exact ⟨rfl, Below.refl _ _⟩
end Go.Proofs.Ytepaaijlkimmeab
