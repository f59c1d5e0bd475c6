/- The walks of promises 65 to 68. -/
import Derived.Test.YtepaaijlkimmeaaDoorC142
import Derived.Test.YtepaaijlkimmeaaDoorC135
import Derived.Test.YtepaaijlkimmeaaDoorC137
import Derived.Test.YtepaaijlkimmeaaDoorC107
import Derived.Test.YtepaaijlkimmeaaDoorC116
import Derived.Test.YtepaaijlkimmeaaDoorQ2
import Derived.Test.YtepaaijlkimmeaaDoorM35
import Derived.Test.YtepaaijlkimmeaaDoorQ3
namespace Go.Proofs.YtepaaijlkimmeaaDoor
open Go.RowKit
set_option linter.unusedVariables false
attribute [local irreducible] cN syn

theorem plWordL {xs : List Int} {V : Nat} (h : permB xs = true) (hV : V < 16777216) : plWord xs (V : Int) = (((movN (natP xs) V : Nat) : Int), true) := by
  have : wdB (V : Int) = true := by simp [wdB]; omega
  simp [plWord, h, this]
theorem lpI_perm (a b c d : R23) (h : a * d - b * c ≠ 0) : permB (lpI a b c d) = true := permB_of (lpN_perm a b c d h)
theorem lpI_nat (a b c d : R23) : natP (lpI a b c d) = lpN a b c d := natP_intP _
theorem liI_in (W : Nat) (h : W < 16777216) : liI (W : Int) = inLN W := liI_val W h
theorem gen_ltL (r : R23) : gL.getD r.val 0 < 16777216 := gL_rng ⟨r.val, Nat.lt_succ_of_lt r.isLt⟩
theorem wts_wt {W : Nat} (h : wts (pop W) = true) : wt (W : Int) = 0 ∨ wt (W : Int) = 8 ∨ wt (W : Int) = 12 ∨ wt (W : Int) = 16 ∨ wt (W : Int) = 24 := by
  rw [wt_pop]
  simp only [wts, Bool.or_eq_true, beq_iff_eq] at h
  omega
/-- A generator is the first one moved; it has twelve places. -/
theorem word_gen (r : R23) : ∃ ts, lpL 1 r.val 0 1 = (ts, true) ∧ plWord ts (gL.getD 0 0 : Nat) = (((gL.getD r.val 0 : Nat) : Int), true) ∧ wt ((gL.getD r.val 0 : Nat) : Int) = 12 ∧ liI ((gL.getD r.val 0 : Nat) : Int) = true := by
  have hd : (1 : R23) * 1 - r * 0 = 1 := by grobner
  have hs : sqF ((1 : R23) * 1 - r * 0) = true := by rw [hd]; decide
  refine ⟨lpI 1 r 0 1, lpL_val 1 r 0 1 hs, ?_, ?_, ?_⟩
  · rw [plWordL (lpI_perm 1 r 0 1 (by rw [hd]; decide)) (show gL.getD 0 0 < 16777216 by decide), lpI_nat]
    congr 2
    exact gen_moved r
  · rw [wt_pop, gen_wt r]; rfl
  · rw [liI_in _ (gen_ltL r)]; exact gL_in _
theorem lw_zero : lwI 0 = (((gL.getD 0 0 : Nat) : Int), true) := by decide
theorem lw_seven : lwI 7 = (((gL.getD 7 0 : Nat) : Int), true) := by decide
theorem lwI_true {n m : Int} (h : lwI n = (m, true)) : ∃ r : R23, n = r.val ∧ m = ((gL.getD r.val 0 : Nat) : Int) := by
  rcases r_or n with ⟨r, rfl⟩ | hn
  · rw [lwI_val] at h
    cases h
    exact ⟨r, rfl, rfl⟩
  · simp [lwI, isR_no hn] at h
theorem lwI_false {n m : Int} (h : lwI n = (m, false)) : m = 0 := by
  unfold lwI at h
  split at h
  · cases h
  · cases h; rfl
theorem lsI_false {n m : Int} (h : lsI n = (m, false)) : m = 0 := by
  unfold lsI at h
  split at h
  · cases h
  · cases h; rfl
theorem xorI_natL (a b : Nat) : xorI (a : Int) (b : Int) = ((a ^^^ b : Nat) : Int) := by unfold xorI; simp
theorem sum_rest (W : Nat) (hW : W < 16777216) : xorI ((lsN W : Nat) : Int) ((lsN ((W &&& 8388607) ^^^ 8388607) : Nat) : Int) = ((lsN 8388607 : Nat) : Int) := by
  rw [xorI_natL, lsN_xor, show (8388607 : Nat) = 2 ^ 23 - 1 from rfl, Nat.and_two_pow_sub_one_eq_mod, show (2 : Nat) ^ 23 = 8388608 from rfl, lsN_mod W hW, ← Nat.xor_assoc, Nat.xor_self, Nat.zero_xor]
theorem lsI_true {n m : Int} (h : lsI n = (m, true)) : ∃ W : Nat, n = (W : Int) ∧ W < 16777216 ∧ m = ((lsN W : Nat) : Int) := by
  rcases w_orL n with ⟨W, rfl, hW⟩ | hn
  · rw [lsI_val W hW] at h
    cases h
    exact ⟨W, rfl, hW, rfl⟩
  · rw [lsI_no hn] at h; cases h
theorem liI_true {n : Int} (h : liI n = true) : ∃ W : Nat, n = (W : Int) ∧ W < 16777216 ∧ inLN W = true := by
  rcases w_orL n with ⟨W, rfl, hW⟩ | hn
  · rw [liI_in W hW] at h
    exact ⟨W, rfl, hW, h⟩
  · rw [liI_no hn] at h; cases h
theorem lpL_false {a b c d : Int} {ts : List Int} (h : lpL a b c d = (ts, false)) : ts = [] := by
  unfold lpL at h
  split at h
  · cases h
  · cases h; rfl
/-- The order of a move, and what it does to each generator. -/
theorem perm_facts8 {a b c d : Int} {ts : List Int} (h : lpL a b c d = (ts, true)) : ∃ M : Nat, plOrder ts = ((M : Int), true) ∧ 1 ≤ M ∧ M ≤ 16777216 ∧ ((11 : Int) % (M : Int) = 0 ∨ (12 : Int) % (M : Int) = 0 ∨ (23 : Int) % (M : Int) = 0) ∧
    ∀ k, k < 23 → ∃ V : Int, plWord ts ((gL.getD k 0 : Nat) : Int) = (V, true) ∧ liI V = true := by
  rcases hg : gvI a b c d with _ | _
  · simp [lpL, hg] at h
  obtain ⟨a, b, c, d, rfl, rfl, rfl, rfl, hs⟩ := gvI_true hg
  rw [lpL_val a b c d hs] at h
  cases h
  have hb := lpI_perm a b c d (sq_ne hs)
  obtain ⟨hP, _⟩ := permB_perm hb
  have hO := plOrder_ord hb
  rw [lpI_nat] at hO hP
  obtain ⟨r1, r2⟩ := ordP_rng hP
  obtain ⟨n, hn, hi⟩ := lpN_ord a b c d hs
  have hd := (ordP_dvd hP n).2 hi
  refine ⟨_, hO, r1, r2, ?_, fun k hk => ?_⟩
  · have hm := Nat.mod_eq_zero_of_dvd hd
    generalize ordP (lpN a b c d) = M at *
    have hz : ((n % M : Nat) : Int) = 0 := by rw [hm]; rfl
    rw [Int.natCast_emod] at hz
    rcases hn with rfl | rfl | rfl
    · exact .inl hz
    · exact .inr (.inl hz)
    · exact .inr (.inr hz)
  · refine ⟨_, plWordL hb (gL_rng ⟨k, by omega⟩), ?_⟩
    rw [lpI_nat, liI_in _ (movN_lt hP _)]
    exact (keeps_line a b c d hs).word _ (gL_in k)
set_option maxHeartbeats 4000000 in
theorem walk_FnLineWord (a0 : Option Addr) (len0 cap0 : Nat) (z0 : List Int) (w : World) (w0 : IsRow .u8 w a0 len0 cap0 z0) (hT : TabB w) :
    Calls Tryd.prog 4 #[.slice a0 len0 cap0] w fun e w' => e = .returned (.bool true) ∧ Below w.heap.size w w' := by
  obtain ⟨bs, rfl, hr, hc, hm, hv⟩ := w0.bytes
  have hm' := hm
  unfold maxLen at hm'
  by_cases hbig : 1048576 < bs.length
  · go_enter Tryd.func4, Tryd.ntmps4
    go_wp2_with fail
    go_ret
    exact ⟨rfl, Below.refl _ _⟩
  have hbig' : bs.length ≤ 1048576 := by omega
  clear hbig
  go_enter Tryd.func4, Tryd.ntmps4
  go_wp2_with fail
  refine (DrawLineWord_calls _ _ bs _ hr hc hm hv).mono ?_
  rintro e w1 ⟨n, rfl, b1⟩
  have B0 := Lib.hid (b1)
  rcases hb : lwI n with ⟨m, _ | _⟩
  · obtain rfl := lwI_false hb
    have H := Lib.hid hb
    clear hb
    go_wp2_with fail
    refine (iLineWord_calls n _).mono ?_
    rintro e w1_ ⟨he, b1_⟩
    rw [H.out] at he
    dsimp only at he
    subst he
    have B1 := Lib.hid ((B0.out).trans (b1_.mono (B0.out).size))
    go_wp2_with fail
    refine (sLineWord_calls n _).mono ?_
    rintro e w2_ ⟨he, b2_⟩
    rw [H.out] at he
    dsimp only at he
    subst he
    have B2 := Lib.hid ((B1.out).trans (b2_.mono (B1.out).size))
    go_wp2_with fail
    go_ret
    first | exact ⟨rfl, B2.out⟩ | exact ⟨rfl, by have hB := B2.out; simp only [World.drewN_drewN] at hB; exact hB⟩
  · obtain ⟨r, rfl, rfl⟩ := lwI_true hb
    obtain ⟨ts, f1, f2, f3, f4⟩ := word_gen r
    have f0 := lw_zero
    have g0 := gen_ltL r
    have H := Lib.hid hb
    have F0 := Lib.hid f0
    have F1 := Lib.hid f1
    have F2 := Lib.hid f2
    have F3 := Lib.hid f3
    have F4 := Lib.hid f4
    clear hb f0 f1 f2 f3 f4
    have g1 : 0 ≤ ((gL.getD r.val 0 : Nat) : Int) ∧ ((gL.getD r.val 0 : Nat) : Int) ≤ 16777215 := by omega
    obtain ⟨g2, g3⟩ := g1
    clear g0
    generalize ((gL.getD r.val 0 : Nat) : Int) = m at *
    generalize ((gL.getD 0 0 : Nat) : Int) = m0 at *
    generalize (r.val : Int) = n at *
    go_wp2_with fail
    refine (iLineWord_calls n _).mono ?_
    rintro e w1_ ⟨he, b1_⟩
    rw [H.out] at he
    dsimp only at he
    subst he
    have B1 := Lib.hid ((B0.out).trans (b1_.mono (B0.out).size))
    go_wp2_with fail
    refine (sLineWord_calls n _).mono ?_
    rintro e w2_ ⟨he, b2_⟩
    rw [H.out] at he
    dsimp only at he
    subst he
    have B2 := Lib.hid ((B1.out).trans (b2_.mono (B1.out).size))
    go_wp2_with fail
    refine (iLinePerm_calls 1 n 0 1 _).mono ?_
    rintro e w3_ ⟨v3_, he, o3_, b3_⟩
    rw [F1.out] at he o3_
    (try dsimp only at he o3_)
    subst he
    obtain ⟨Ax, cx, rfl⟩ := o3_.slice
    have B3 := Lib.hid ((B2.out).trans (b3_.mono (B2.out).size))
    have Ox3 := Lib.hid (o3_.weak (B2.out).size)
    go_wp2_with fail
    refine (iLineWord_calls 0 _).mono ?_
    rintro e w4_ ⟨he, b4_⟩
    rw [F0.out] at he
    dsimp only at he
    subst he
    have B4 := Lib.hid ((B3.out).trans (b4_.mono (B3.out).size))
    have Ox4 := Lib.hid ((Ox3.out).below b4_)
    go_wp2_with fail
    refine (iPermWord_calls Ax cx ts m0 _ (Ox4.out).rds (Ox4.out).len_le (hT.below (B4.out) hT.lt)).mono ?_
    rintro e w5_ ⟨he, b5_⟩
    rw [F2.out] at he
    dsimp only at he
    subst he
    have B5 := Lib.hid ((B4.out).trans (b5_.mono (B4.out).size))
    have Ox5 := Lib.hid ((Ox4.out).below b5_)
    go_wp2_with fail
    refine (iWordWeight_ok m _ ⟨g2, g3⟩).mono ?_
    rintro e w' ⟨he, k6_, rfl⟩
    rw [F3.out] at he
    subst he
    have B6 := Lib.hid (below_drewN (B5.out) k6_)
    have Ox6 := Lib.hid ((Ox5.out).drewN k6_)
    go_wp2_with fail
    refine (iLineIn_calls m _ (hT.below (B6.out) hT.lt)).mono ?_
    rintro e w7_ ⟨he, b7_⟩
    rw [F4.out] at he
    subst he
    have B7 := Lib.hid ((B6.out).trans (b7_.mono (B6.out).size))
    have Ox7 := Lib.hid ((Ox6.out).below b7_)
    go_wp2_with fail
    go_ret
    first | exact ⟨rfl, B7.out⟩ | exact ⟨rfl, by have hB := B7.out; simp only [World.drewN_drewN] at hB; exact hB⟩
set_option maxHeartbeats 4000000 in
theorem walk_FnLineSum (a0 : Option Addr) (len0 cap0 : Nat) (z0 : List Int) (w : World) (w0 : IsRow .u8 w a0 len0 cap0 z0) (hT : TabB w) :
    Calls Tryd.prog 5 #[.slice a0 len0 cap0] w fun e w' => e = .returned (.bool true) ∧ Below w.heap.size w w' := by
  obtain ⟨bs, rfl, hr, hc, hm, hv⟩ := w0.bytes
  have hm' := hm
  unfold maxLen at hm'
  by_cases hbig : 1048576 < bs.length
  · go_enter Tryd.func5, Tryd.ntmps5
    go_wp2_with fail
    go_ret
    exact ⟨rfl, Below.refl _ _⟩
  have hbig' : bs.length ≤ 1048576 := by omega
  clear hbig
  go_enter Tryd.func5, Tryd.ntmps5
  go_wp2_with fail
  refine (DrawLineSum_calls _ _ bs _ hr hc hm hv).mono ?_
  rintro e w1 ⟨n, rfl, b1⟩
  have B0 := Lib.hid (b1)
  rcases hb : lsI n with ⟨m, _ | _⟩
  · obtain rfl := lsI_false hb
    have H := Lib.hid hb
    clear hb
    go_wp2_with fail
    refine (iLineSum_calls n _ (hT.below (B0.out) hT.lt)).mono ?_
    rintro e w1_ ⟨he, b1_⟩
    rw [H.out] at he
    dsimp only at he
    subst he
    have B1 := Lib.hid ((B0.out).trans (b1_.mono (B0.out).size))
    go_wp2_with fail
    refine (sLineSum_calls n _).mono ?_
    rintro e w2_ ⟨he, b2_⟩
    rw [H.out] at he
    dsimp only at he
    subst he
    have B2 := Lib.hid ((B1.out).trans (b2_.mono (B1.out).size))
    go_wp2_with fail
    go_ret
    first | exact ⟨rfl, B2.out⟩ | exact ⟨rfl, by have hB := B2.out; simp only [World.drewN_drewN] at hB; exact hB⟩
  · obtain ⟨W, rfl, hW, rfl⟩ := lsI_true hb
    have f1 := sum_rest W hW
    have f2 := liI_in _ (lsN_lt W)
    rw [inLN_ls] at f2
    have f3 := wts_wt (lsN_wts W)
    have hr : (W &&& 8388607) ^^^ 8388607 < 16777216 := Nat.xor_lt_two_pow (n := 24) (Nat.lt_of_le_of_lt Nat.and_le_left hW) (by decide)
    have f4 := lsI_val _ hr
    have f5 := lsI_val 8388607 (by decide)
    have e1 := and_i64 (W : Int) 8388607 (by omega) (by omega) (by omega) (by omega)
    rw [show andI (W : Int) 8388607 = ((W &&& 8388607 : Nat) : Int) from rfl] at e1
    have hr2 : W &&& 8388607 < 16777216 := Nat.lt_of_le_of_lt Nat.and_le_left hW
    have e2 := xor_i64 ((W &&& 8388607 : Nat) : Int) 8388607 (by omega) (by omega) (by omega) (by omega)
    rw [show xorI ((W &&& 8388607 : Nat) : Int) 8388607 = (((W &&& 8388607) ^^^ 8388607 : Nat) : Int) from rfl] at e2
    have l1 := lsN_lt W
    have l2 := lsN_lt ((W &&& 8388607) ^^^ 8388607)
    have e3 := xor_i64 ((lsN W : Nat) : Int) ((lsN ((W &&& 8388607) ^^^ 8388607) : Nat) : Int) (by omega) (by omega) (by omega) (by omega)
    rw [f1] at e3
    have g1 : 0 ≤ ((lsN W : Nat) : Int) ∧ ((lsN W : Nat) : Int) ≤ 16777215 := by omega
    obtain ⟨g2, g3⟩ := g1
    rw [show ((8388607 : Nat) : Int) = 8388607 from rfl] at f5
    generalize ((lsN 8388607 : Nat) : Int) = al at *
    generalize ((lsN ((W &&& 8388607) ^^^ 8388607) : Nat) : Int) = re at *
    generalize (((W &&& 8388607) ^^^ 8388607 : Nat) : Int) = x2 at *
    generalize ((W &&& 8388607 : Nat) : Int) = x1 at *
    generalize ((lsN W : Nat) : Int) = o at *
    have H := Lib.hid hb
    have F2 := Lib.hid f2
    have F4 := Lib.hid f4
    have F5 := Lib.hid f5
    obtain ⟨q, hq⟩ : ∃ q, wt o = q := ⟨_, rfl⟩
    rw [hq] at f3
    have F3 := Lib.hid hq
    clear hb f1 f2 f4 f5 hq l1 l2 hr hr2
    go_wp2_with fail
    refine (iLineSum_calls (W : Int) _ (hT.below (B0.out) hT.lt)).mono ?_
    rintro e w1_ ⟨he, b1_⟩
    rw [H.out] at he
    dsimp only at he
    subst he
    have B1 := Lib.hid ((B0.out).trans (b1_.mono (B0.out).size))
    go_wp2_with fail
    refine (sLineSum_calls (W : Int) _).mono ?_
    rintro e w2_ ⟨he, b2_⟩
    rw [H.out] at he
    dsimp only at he
    subst he
    have B2 := Lib.hid ((B1.out).trans (b2_.mono (B1.out).size))
    go_wp2_with fail
    refine (iWordWeight_ok o _ ⟨g2, g3⟩).mono ?_
    rintro e w' ⟨he, k3_, rfl⟩
    rw [F3.out] at he
    subst he
    have B3 := Lib.hid (below_drewN (B2.out) k3_)
    go_wp2_with fail
    refine (iLineSum_calls x2 _ (hT.below (B3.out) hT.lt)).mono ?_
    rintro e w4_ ⟨he, b4_⟩
    rw [F4.out] at he
    dsimp only at he
    subst he
    have B4 := Lib.hid ((B3.out).trans (b4_.mono (B3.out).size))
    go_wp2_with fail
    refine (iLineSum_calls 8388607 _ (hT.below (B4.out) hT.lt)).mono ?_
    rintro e w5_ ⟨he, b5_⟩
    rw [F5.out] at he
    dsimp only at he
    subst he
    have B5 := Lib.hid ((B4.out).trans (b5_.mono (B4.out).size))
    rcases f3 with f3 | f3 | f3 | f3 | f3
    · subst f3
      go_wp2_with fail
      refine (iLineIn_calls o _ (hT.below (B5.out) hT.lt)).mono ?_
      rintro e w6_ ⟨he, b6_⟩
      rw [F2.out] at he
      subst he
      have B6 := Lib.hid ((B5.out).trans (b6_.mono (B5.out).size))
      go_wp2_with fail
      go_ret
      first | exact ⟨rfl, B6.out⟩ | exact ⟨rfl, by have hB := B6.out; simp only [World.drewN_drewN] at hB; exact hB⟩
    · subst f3
      go_wp2_with fail
      refine (iLineIn_calls o _ (hT.below (B5.out) hT.lt)).mono ?_
      rintro e w6_ ⟨he, b6_⟩
      rw [F2.out] at he
      subst he
      have B6 := Lib.hid ((B5.out).trans (b6_.mono (B5.out).size))
      go_wp2_with fail
      go_ret
      first | exact ⟨rfl, B6.out⟩ | exact ⟨rfl, by have hB := B6.out; simp only [World.drewN_drewN] at hB; exact hB⟩
    · subst f3
      go_wp2_with fail
      refine (iLineIn_calls o _ (hT.below (B5.out) hT.lt)).mono ?_
      rintro e w6_ ⟨he, b6_⟩
      rw [F2.out] at he
      subst he
      have B6 := Lib.hid ((B5.out).trans (b6_.mono (B5.out).size))
      go_wp2_with fail
      go_ret
      first | exact ⟨rfl, B6.out⟩ | exact ⟨rfl, by have hB := B6.out; simp only [World.drewN_drewN] at hB; exact hB⟩
    · subst f3
      go_wp2_with fail
      refine (iLineIn_calls o _ (hT.below (B5.out) hT.lt)).mono ?_
      rintro e w6_ ⟨he, b6_⟩
      rw [F2.out] at he
      subst he
      have B6 := Lib.hid ((B5.out).trans (b6_.mono (B5.out).size))
      go_wp2_with fail
      go_ret
      first | exact ⟨rfl, B6.out⟩ | exact ⟨rfl, by have hB := B6.out; simp only [World.drewN_drewN] at hB; exact hB⟩
    · subst f3
      go_wp2_with fail
      refine (iLineIn_calls o _ (hT.below (B5.out) hT.lt)).mono ?_
      rintro e w6_ ⟨he, b6_⟩
      rw [F2.out] at he
      subst he
      have B6 := Lib.hid ((B5.out).trans (b6_.mono (B5.out).size))
      go_wp2_with fail
      go_ret
      first | exact ⟨rfl, B6.out⟩ | exact ⟨rfl, by have hB := B6.out; simp only [World.drewN_drewN] at hB; exact hB⟩
set_option maxHeartbeats 4000000 in
theorem walk_FnLineIn (a0 : Option Addr) (len0 cap0 : Nat) (z0 : List Int) (w : World) (w0 : IsRow .u8 w a0 len0 cap0 z0) (hT : TabB w) :
    Calls Tryd.prog 6 #[.slice a0 len0 cap0] w fun e w' => e = .returned (.bool true) ∧ Below w.heap.size w w' := by
  obtain ⟨bs, rfl, hr, hc, hm, hv⟩ := w0.bytes
  have hm' := hm
  unfold maxLen at hm'
  by_cases hbig : 1048576 < bs.length
  · go_enter Tryd.func6, Tryd.ntmps6
    go_wp2_with fail
    go_ret
    exact ⟨rfl, Below.refl _ _⟩
  have hbig' : bs.length ≤ 1048576 := by omega
  clear hbig
  go_enter Tryd.func6, Tryd.ntmps6
  go_wp2_with fail
  refine (DrawLineIn_calls _ _ bs _ hr hc hm hv).mono ?_
  rintro e w1 ⟨n, rfl, b1⟩
  have B0 := Lib.hid (b1)
  rcases hb : liI n with _ | _
  · have H := Lib.hid hb
    clear hb
    go_wp2_with fail
    refine (iLineIn_calls n _ (hT.below (B0.out) hT.lt)).mono ?_
    rintro e w1_ ⟨he, b1_⟩
    rw [H.out] at he
    subst he
    have B1 := Lib.hid ((B0.out).trans (b1_.mono (B0.out).size))
    go_wp2_with fail
    refine (sLineIn_calls n _).mono ?_
    rintro e w2_ ⟨he, b2_⟩
    rw [H.out] at he
    subst he
    have B2 := Lib.hid ((B1.out).trans (b2_.mono (B1.out).size))
    go_wp2_with fail
    go_ret
    first | exact ⟨rfl, B2.out⟩ | exact ⟨rfl, by have hB := B2.out; simp only [World.drewN_drewN] at hB; exact hB⟩
  · obtain ⟨W, rfl, hW, hin⟩ := liI_true hb
    have f1 := lw_seven
    have f3 := wts_wt (inLN_wts hin)
    have h7 : gL.getD 7 0 < 16777216 := by decide
    have x1 : W ^^^ 16777215 < 16777216 := Nat.xor_lt_two_pow (n := 24) hW (by decide)
    have x2 : W ^^^ gL.getD 7 0 < 16777216 := Nat.xor_lt_two_pow (n := 24) hW h7
    have f4 := liI_in _ x1
    rw [inLN_xor hin all_in] at f4
    have f5 := liI_in _ x2
    rw [inLN_xor hin (gL_in 7)] at f5
    have e1 := xor_i64 (W : Int) 16777215 (by omega) (by omega) (by omega) (by omega)
    rw [show xorI (W : Int) 16777215 = ((W ^^^ 16777215 : Nat) : Int) from rfl] at e1
    have e2 := xor_i64 (W : Int) ((gL.getD 7 0 : Nat) : Int) (by omega) (by omega) (by omega) (by omega)
    rw [xorI_natL] at e2
    have g2 : 0 ≤ (W : Int) := by omega
    have g3 : (W : Int) ≤ 16777215 := by omega
    generalize ((W ^^^ 16777215 : Nat) : Int) = y1 at *
    generalize ((W ^^^ gL.getD 7 0 : Nat) : Int) = y2 at *
    generalize ((gL.getD 7 0 : Nat) : Int) = m at *
    have H := Lib.hid hb
    have F1 := Lib.hid f1
    have F4 := Lib.hid f4
    have F5 := Lib.hid f5
    obtain ⟨q, hq⟩ : ∃ q, wt (W : Int) = q := ⟨_, rfl⟩
    rw [hq] at f3
    have F3 := Lib.hid hq
    clear hb f1 f4 f5 hq x1 x2 h7 hin
    go_wp2_with fail
    refine (iLineIn_calls (W : Int) _ (hT.below (B0.out) hT.lt)).mono ?_
    rintro e w1_ ⟨he, b1_⟩
    rw [H.out] at he
    subst he
    have B1 := Lib.hid ((B0.out).trans (b1_.mono (B0.out).size))
    go_wp2_with fail
    refine (sLineIn_calls (W : Int) _).mono ?_
    rintro e w2_ ⟨he, b2_⟩
    rw [H.out] at he
    subst he
    have B2 := Lib.hid ((B1.out).trans (b2_.mono (B1.out).size))
    go_wp2_with fail
    refine (iLineWord_calls 7 _).mono ?_
    rintro e w3_ ⟨he, b3_⟩
    rw [F1.out] at he
    dsimp only at he
    subst he
    have B3 := Lib.hid ((B2.out).trans (b3_.mono (B2.out).size))
    go_wp2_with fail
    refine (iWordWeight_ok (W : Int) _ ⟨g2, g3⟩).mono ?_
    rintro e w' ⟨he, k4_, rfl⟩
    rw [F3.out] at he
    subst he
    have B4 := Lib.hid (below_drewN (B3.out) k4_)
    rcases f3 with f3 | f3 | f3 | f3 | f3
    · subst f3
      go_wp2_with fail
      refine (iLineIn_calls y1 _ (hT.below (B4.out) hT.lt)).mono ?_
      rintro e w5_ ⟨he, b5_⟩
      rw [F4.out] at he
      subst he
      have B5 := Lib.hid ((B4.out).trans (b5_.mono (B4.out).size))
      go_wp2_with fail
      refine (iLineIn_calls y2 _ (hT.below (B5.out) hT.lt)).mono ?_
      rintro e w6_ ⟨he, b6_⟩
      rw [F5.out] at he
      subst he
      have B6 := Lib.hid ((B5.out).trans (b6_.mono (B5.out).size))
      go_wp2_with fail
      go_ret
      first | exact ⟨rfl, B6.out⟩ | exact ⟨rfl, by have hB := B6.out; simp only [World.drewN_drewN] at hB; exact hB⟩
    · subst f3
      go_wp2_with fail
      refine (iLineIn_calls y1 _ (hT.below (B4.out) hT.lt)).mono ?_
      rintro e w5_ ⟨he, b5_⟩
      rw [F4.out] at he
      subst he
      have B5 := Lib.hid ((B4.out).trans (b5_.mono (B4.out).size))
      go_wp2_with fail
      refine (iLineIn_calls y2 _ (hT.below (B5.out) hT.lt)).mono ?_
      rintro e w6_ ⟨he, b6_⟩
      rw [F5.out] at he
      subst he
      have B6 := Lib.hid ((B5.out).trans (b6_.mono (B5.out).size))
      go_wp2_with fail
      go_ret
      first | exact ⟨rfl, B6.out⟩ | exact ⟨rfl, by have hB := B6.out; simp only [World.drewN_drewN] at hB; exact hB⟩
    · subst f3
      go_wp2_with fail
      refine (iLineIn_calls y1 _ (hT.below (B4.out) hT.lt)).mono ?_
      rintro e w5_ ⟨he, b5_⟩
      rw [F4.out] at he
      subst he
      have B5 := Lib.hid ((B4.out).trans (b5_.mono (B4.out).size))
      go_wp2_with fail
      refine (iLineIn_calls y2 _ (hT.below (B5.out) hT.lt)).mono ?_
      rintro e w6_ ⟨he, b6_⟩
      rw [F5.out] at he
      subst he
      have B6 := Lib.hid ((B5.out).trans (b6_.mono (B5.out).size))
      go_wp2_with fail
      go_ret
      first | exact ⟨rfl, B6.out⟩ | exact ⟨rfl, by have hB := B6.out; simp only [World.drewN_drewN] at hB; exact hB⟩
    · subst f3
      go_wp2_with fail
      refine (iLineIn_calls y1 _ (hT.below (B4.out) hT.lt)).mono ?_
      rintro e w5_ ⟨he, b5_⟩
      rw [F4.out] at he
      subst he
      have B5 := Lib.hid ((B4.out).trans (b5_.mono (B4.out).size))
      go_wp2_with fail
      refine (iLineIn_calls y2 _ (hT.below (B5.out) hT.lt)).mono ?_
      rintro e w6_ ⟨he, b6_⟩
      rw [F5.out] at he
      subst he
      have B6 := Lib.hid ((B5.out).trans (b6_.mono (B5.out).size))
      go_wp2_with fail
      go_ret
      first | exact ⟨rfl, B6.out⟩ | exact ⟨rfl, by have hB := B6.out; simp only [World.drewN_drewN] at hB; exact hB⟩
    · subst f3
      go_wp2_with fail
      refine (iLineIn_calls y1 _ (hT.below (B4.out) hT.lt)).mono ?_
      rintro e w5_ ⟨he, b5_⟩
      rw [F4.out] at he
      subst he
      have B5 := Lib.hid ((B4.out).trans (b5_.mono (B4.out).size))
      go_wp2_with fail
      refine (iLineIn_calls y2 _ (hT.below (B5.out) hT.lt)).mono ?_
      rintro e w6_ ⟨he, b6_⟩
      rw [F5.out] at he
      subst he
      have B6 := Lib.hid ((B5.out).trans (b6_.mono (B5.out).size))
      go_wp2_with fail
      go_ret
      first | exact ⟨rfl, B6.out⟩ | exact ⟨rfl, by have hB := B6.out; simp only [World.drewN_drewN] at hB; exact hB⟩
set_option maxHeartbeats 4000000 in
theorem walk_FnLinePerm (a0 : Option Addr) (len0 cap0 : Nat) (z0 : List Int) (w : World) (w0 : IsRow .u8 w a0 len0 cap0 z0) (hT : TabB w) :
    Calls Tryd.prog 3 #[.slice a0 len0 cap0] w fun e w' => e = .returned (.bool true) ∧ Below w.heap.size w w' := by
  obtain ⟨bs, rfl, hr, hc, hm, hv⟩ := w0.bytes
  have hm' := hm
  unfold maxLen at hm'
  by_cases hbig : 1048576 < bs.length
  · go_enter Tryd.func3, Tryd.ntmps3
    go_wp2_with fail
    go_ret
    exact ⟨rfl, Below.refl _ _⟩
  have hbig' : bs.length ≤ 1048576 := by omega
  clear hbig
  go_enter Tryd.func3, Tryd.ntmps3
  go_wp2_with fail
  refine (DrawLinePerm_calls _ _ bs _ hr hc hm hv).mono ?_
  rintro e w1 ⟨a, b, c, d, rfl, b1⟩
  have B0 := Lib.hid (b1)
  rcases hb : lpL a b c d with ⟨ts, _ | _⟩
  · obtain rfl := lpL_false hb
    have H := Lib.hid hb
    clear hb
    go_wp2_with fail
    refine (iLinePerm_calls a b c d _).mono ?_
    rintro e w1_ ⟨v1_, he, o1_, b1_⟩
    rw [H.out] at he o1_
    (try dsimp only at he o1_)
    subst he
    obtain ⟨Ax, cx, rfl⟩ := o1_.slice
    have B1 := Lib.hid ((B0.out).trans (b1_.mono (B0.out).size))
    have Ox1 := Lib.hid (o1_.weak (B0.out).size)
    go_wp2_with fail
    refine (sLinePerm_calls a b c d _).mono ?_
    rintro e w2_ ⟨v2_, he, o2_, b2_⟩
    rw [H.out] at he o2_
    (try dsimp only at he o2_)
    subst he
    obtain ⟨Ay, cy, rfl⟩ := o2_.slice
    have B2 := Lib.hid ((B1.out).trans (b2_.mono (B1.out).size))
    have Ox2 := Lib.hid ((Ox1.out).below b2_)
    have Oy2 := Lib.hid (o2_.weak (B1.out).size)
    go_wp2_with fail
    refine (sameInts_calls _ _ _ _ [] [] _ (Ox2.out).rds (Oy2.out).rds (Ox2.out).len_le (Oy2.out).len_le).mono ?_
    rintro e w' ⟨he, k3_, rfl⟩
    rw [eqL_refl] at he
    subst he
    have B3 := Lib.hid (below_drewN (B2.out) k3_)
    have Ox3 := Lib.hid ((Ox2.out).drewN k3_)
    have Oy3 := Lib.hid ((Oy2.out).drewN k3_)
    go_wp2_with fail
    refine (sameInts_calls _ _ _ _ [] [] _ (Ox3.out).rds (Oy3.out).rds (Ox3.out).len_le (Oy3.out).len_le).mono ?_
    rintro e w' ⟨he, k4_, rfl⟩
    rw [eqL_refl] at he
    subst he
    have B4 := Lib.hid (below_drewN (B3.out) k4_)
    have Ox4 := Lib.hid ((Ox3.out).drewN k4_)
    have Oy4 := Lib.hid ((Oy3.out).drewN k4_)
    go_wp2_with fail
    go_ret
    first | exact ⟨rfl, B4.out⟩ | exact ⟨rfl, by have hB := B4.out; simp only [World.drewN_drewN] at hB; exact hB⟩
  · obtain ⟨M, f1, m1, m2, f2, f3⟩ := perm_facts8 hb
    have H := Lib.hid hb
    have F1 := Lib.hid f1
    have F3 := Lib.hid f3
    clear hb f1 f3
    go_wp2_with fail
    refine (iLinePerm_calls a b c d _).mono ?_
    rintro e w1_ ⟨v1_, he, o1_, b1_⟩
    rw [H.out] at he o1_
    (try dsimp only at he o1_)
    subst he
    obtain ⟨Ax, cx, rfl⟩ := o1_.slice
    have B1 := Lib.hid ((B0.out).trans (b1_.mono (B0.out).size))
    have Ox1 := Lib.hid (o1_.weak (B0.out).size)
    go_wp2_with fail
    refine (sLinePerm_calls a b c d _).mono ?_
    rintro e w2_ ⟨v2_, he, o2_, b2_⟩
    rw [H.out] at he o2_
    (try dsimp only at he o2_)
    subst he
    obtain ⟨Ay, cy, rfl⟩ := o2_.slice
    have B2 := Lib.hid ((B1.out).trans (b2_.mono (B1.out).size))
    have Ox2 := Lib.hid ((Ox1.out).below b2_)
    have Oy2 := Lib.hid (o2_.weak (B1.out).size)
    go_wp2_with fail
    refine (sameInts_calls _ _ _ _ ts ts _ (Ox2.out).rds (Oy2.out).rds (Ox2.out).len_le (Oy2.out).len_le).mono ?_
    rintro e w' ⟨he, k3_, rfl⟩
    rw [eqL_refl] at he
    subst he
    have B3 := Lib.hid (below_drewN (B2.out) k3_)
    have Ox3 := Lib.hid ((Ox2.out).drewN k3_)
    have Oy3 := Lib.hid ((Oy2.out).drewN k3_)
    go_wp2_with fail
    refine (iPermOrder_calls Ax cx ts _ (Ox3.out).rds (Ox3.out).len_le).mono ?_
    rintro e w4_ ⟨he, b4_⟩
    rw [F1.out] at he
    dsimp only at he
    subst he
    have B4 := Lib.hid ((B3.out).trans (b4_.mono (B3.out).size))
    have Ox4 := Lib.hid ((Ox3.out).below b4_)
    have Oy4 := Lib.hid ((Oy3.out).below b4_)
    go_wp2_with fail
    go_loopw [13] (fun i wr => ∃ k : Nat, k ≤ 23 ∧ i = .int .i64 k ∧ Hid (Below w.heap.size w wr) ∧ Hid (Own wr w.heap.size (.slice Ax ts.length cx) ts)) (fun i _ => 23 - (intOf i).toNat)
    case atStart => exact ⟨0, by omega, rfl, Lib.hid (B4.out), Lib.hid (Ox4.out)⟩
    case round =>
      obtain ⟨k, hk, rfl, hB, hO⟩ := hrel
      by_cases hlt : k < 23
      · obtain ⟨V, hv1, hv2⟩ := F3.out k hlt
        have hlw := lwI_val ⟨k, hlt⟩
        rw [show ((((⟨k, hlt⟩ : R23).val : Nat)) : Int) = (k : Int) from rfl] at hlw
        rw [show (((⟨k, hlt⟩ : R23)).val : Nat) = k from rfl] at hlw
        have k0 : (0 : Int) ≤ (k : Int) := by omega
        have k1 : (k : Int) < 23 := by omega
        have V1 := Lib.hid hv1
        have V2 := Lib.hid hv2
        have V3 := Lib.hid hlw
        clear hv1 hv2 hlw
        generalize ((gL.getD k 0 : Nat) : Int) = gk at *
        go_wp2_with fail
        refine (iLineWord_calls (k : Int) _).mono ?_
        rintro e w1a ⟨he, b1a⟩
        rw [V3.out] at he
        dsimp only at he
        subst he
        have B1a := Lib.hid (hB.out.trans (b1a.mono hB.out.size))
        have O1a := Lib.hid (hO.out.below b1a)
        go_wp2_with fail
        refine (iPermWord_calls Ax cx ts gk _ O1a.out.rds O1a.out.len_le (hT.below B1a.out hT.lt)).mono ?_
        rintro e w2a ⟨he, b2a⟩
        rw [V1.out] at he
        dsimp only at he
        subst he
        have B2a := Lib.hid (B1a.out.trans (b2a.mono B1a.out.size))
        have O2a := Lib.hid (O1a.out.below b2a)
        go_wp2_with fail
        refine (iLineIn_calls V _ (hT.below B2a.out hT.lt)).mono ?_
        rintro e w3a ⟨he, b3a⟩
        rw [V2.out] at he
        subst he
        have B3a := Lib.hid (B2a.out.trans (b3a.mono B2a.out.size))
        have O3a := Lib.hid (O2a.out.below b3a)
        clear b1a b2a b3a
        go_wp2_with fail
        go_roundw
        case rel => exact ⟨k + 1, by omega, by go_num, B3a, O3a⟩
        case measure => simp [intOf]; omega
      · obtain rfl : k = 23 := by omega
        have mz : ¬ (M : Int) = 0 := by omega
        have mz1 : (1 : Int) ≤ (M : Int) := by omega
        go_wp2_with fail
        all_goals go_ret
        all_goals first
          | exact ⟨rfl, hB.out⟩
          | exact ⟨ret_b (by simp_all), hB.out⟩
end Go.Proofs.YtepaaijlkimmeaaDoor
