/- Permutations of the model: a moved word, PermWord; what keeps the code, of both sides. -/
import Derived.Test.YtakefnfhjiodnaaDoorC107
import Derived.Test.YtakefnfhjiodnaaDoorC106
import Derived.Test.YtakefnfhjiodnaaDoorC27
import Derived.Test.YtakefnfhjiodnaaDoorC28
import Derived.Test.YtakefnfhjiodnaaDoorQ6
import Derived.Test.YtakefnfhjiodnaaDoorQ2
namespace Go.Proofs.YtakefnfhjiodnaaDoor
open Go.RowKit
set_option linter.unusedVariables false
attribute [local irreducible] cN syn

/-- The word of the moved ones of the first k places. -/
def moT (P : List Nat) (R k : Nat) : Nat := lin (pws (P.take k)) R
theorem moT_all {P : List Nat} (h : P.length = 24) (R : Nat) : moT P R 24 = movN P R := by
  unfold moT movN
  rw [List.take_of_length_le (by omega)]
theorem moT_lt {P : List Nat} (h : PermN P) (R k : Nat) : moT P R k < 16777216 := by
  refine lin_lt 24 _ (fun a ha => ?_) R
  simp only [pws, List.mem_map] at ha
  obtain ⟨x, hx, rfl⟩ := ha
  exact Nat.pow_lt_pow_right (by decide) (h.2.2 x (List.mem_of_mem_take hx))
theorem moT_bit {P : List Nat} (h : PermN P) (R k : Nat) (hk : k < 24) : (moT P R k).testBit (P.getD k 0) = false := by
  rw [← Bool.not_eq_true]
  intro hb
  obtain ⟨i, hi, e, _⟩ := (testBit_lin (P.take k) R _ (h.2.1.sublist (List.take_sublist k P))).1 hb
  have hi' : i < k := by rw [List.length_take] at hi; omega
  have e2 : (P.take k).getD i 0 = P.getD i 0 := by simp [hi']
  rw [e2] at e
  have := h.inj (by omega) hk e
  omega
theorem moT_succ {P : List Nat} (h : PermN P) (R k : Nat) (hk : k < 24) : ((moT P R (k + 1) : Nat) : Int) = ((moT P R k : Nat) : Int) + if bitI (R : Int) (k : Int) = 1 then powI ((P.getD k 0 : Nat) : Int) else 0 := by
  have hkl : k < P.length := by rw [h.1]; exact hk
  have e : moT P R (k + 1) = moT P R k ^^^ if R.testBit k then 2 ^ P.getD k 0 else 0 := by
    unfold moT
    rw [List.take_succ_eq_append_getElem hkl]
    have : pws (P.take k ++ [P[k]]) = pws (P.take k) ++ [2 ^ P.getD k 0] := by
      have e3 : P.getD k 0 = P[k] := by simp [hkl]
      rw [e3]
      unfold pws
      rw [List.map_append]
      rfl
    rw [this, lin_snoc, pws_len, List.length_take, show min k P.length = k by omega]
  rw [bitI_nat]
  by_cases hb : R.testBit k = true
  · rw [if_pos hb] at e
    rw [if_pos hb, if_pos rfl]
    have hx := xor_pow ((moT P R k : Nat) : Int) ((P.getD k 0 : Nat) : Int) (by omega) (by omega) (by rw [bitI_nat, moT_bit h R k hk]; rfl)
    rw [← hx, e]
    unfold xorI powI
    have e2 : ((2 : Int) ^ ((P.getD k 0 : Nat) : Int).toNat).toNat = 2 ^ P.getD k 0 := by
      rw [Int.toNat_natCast, Int.toNat_pow_of_nonneg (by omega)]
      rfl
    rw [e2, Int.toNat_natCast]
  · rw [if_neg hb] at e
    rw [if_neg hb, if_neg (by decide), e, Nat.xor_zero]
    omega
set_option maxRecDepth 100000 in
set_option maxHeartbeats 1000000 in
theorem l7Word_calls (A : Option Addr) (c : Nat) (xs : List Int) (R : Nat) (hR : R < 16777216) (w : World) (ha : Rds w w.heap.size .i64 A xs) (hp : permB xs = true) :
    Calls Tryd.prog 65 #[.slice A xs.length c, .int .i64 R] w fun e w' => e = .returned (.int .i64 ((movN (natP xs) R : Nat) : Int)) ∧ ∃ k, w' = w.drewN k := by
  obtain ⟨hP, _⟩ := permB_perm hp
  have HAT := Lib.hid (fun k hk => permB_at hp k hk)
  have HL := Lib.hid (permB_len hp)
  have HLT := Lib.hid (fun k => moT_lt hP R k)
  have HSU := Lib.hid (fun k hk => moT_succ hP R k hk)
  have HEND := Lib.hid (moT_all hP.1 R)
  have HZ := Lib.hid (show moT (natP xs) R 0 = 0 from rfl)
  clear hP hp
  go_enter Tryd.func65, Tryd.ntmps65
  go_wp2_with fail
  go_loopw [5, 6] (fun f i wr => ∃ p : Nat, p ≤ 24 ∧ i = .int .i64 p ∧ f = .int .i64 ((moT (natP xs) R p : Nat) : Int) ∧ ∃ m, wr = w.drewN m) (fun _ i _ => 24 - (intOf i).toNat)
  case atStart => exact ⟨0, by omega, rfl, by rw [HZ.out]; rfl, 0, rfl⟩
  case round =>
    obtain ⟨p, hp, rfl, rfl, m, rfl⟩ := hrel
    have hr := HLT.out p
    by_cases hlt : p < 24
    · obtain ⟨e1, hq⟩ := HAT.out p hlt
      obtain ⟨B1, o1, rfl, hB1, c1⟩ := ha.at_ (j := p) (by have := HL.out; omega)
      have k1 : (p : Int) < xs.length := by have := HL.out; omega
      have hs := HSU.out p hlt
      have hr2 := HLT.out (p + 1)
      rw [e1] at c1
      have hp1 : (0 : Int) ≤ (p : Int) := by omega
      have hp2 : (p : Int) < 24 := by omega
      generalize (natP xs).getD p 0 = q at *
      generalize moT (natP xs) R p = f at *
      have hq0 : (0 : Int) ≤ (q : Int) := by omega
      have hq1 : (q : Int) ≤ 23 := by omega
      have hpv := pow_val (q : Int) hq0 hq1
      rcases bitI_01 (R : Int) (p : Int) with hb | hb
      · rw [hb, if_neg (by decide)] at hs
        have HS := Lib.hid (show ((moT (natP xs) R (p + 1) : Nat) : Int) = (f : Int) by omega)
        have HB := Lib.hid hb
        clear hs hb e1 hr2
        go_wp2_with fail
        go_region_with (go_at_call 53; refine (l1Bit_calls _ _ _ (by omega) (by omega)).mono ?_; rintro e w' ⟨he, rfl⟩; rw [HB.out] at he; subst he)
        all_goals
          go_wp2_with fail
          go_roundw
          case rel => exact ⟨p + 1, by omega, by go_num, by rw [HS.out, Int.add_zero], m + 1, rfl⟩
          case measure => simp [intOf]; omega
      · rw [hb, if_pos rfl] at hs
        have HW := Lib.hid (wrap_pow (f : Int) (q : Int) (by omega) (by omega) hpv.1 hpv.2)
        have HS := Lib.hid hs
        have HB := Lib.hid hb
        clear hs hb e1 hr2
        go_wp2_with fail
        go_region_with (go_at_call 53; refine (l1Bit_calls _ _ _ (by omega) (by omega)).mono ?_; rintro e w' ⟨he, rfl⟩; rw [HB.out] at he; subst he)
        all_goals
          go_wp2_with fail
          go_roundw
          case rel => exact ⟨p + 1, by omega, by go_num, by rw [HS.out]; exact congrArg (Value.int .i64) HW.out, m + 1, rfl⟩
          case measure => simp [intOf]; omega
    · obtain rfl : p = 24 := by omega
      rw [HEND.out] at hr ⊢
      go_wp2_with fail
      go_ret
      exact ⟨rfl, m, rfl⟩
set_option maxRecDepth 100000 in
set_option maxHeartbeats 1000000 in
theorem sPermWord_calls (A : Option Addr) (c : Nat) (xs : List Int) (n : Int) (w : World) (ha : Rds w w.heap.size .i64 A xs) (hx : xs.length ≤ maxLen) :
    Calls Tryd.prog 27 #[.slice A xs.length c, .int .i64 n] w fun e w' => e = .returned (.tuple #[.int .i64 (plWord xs n).1, .bool (plWord xs n).2]) ∧ Below w.heap.size w w' := by
  have HV := Lib.hid (sPermValid_calls A c xs w ha hx)
  rcases hp : permB xs with _ | _
  · rw [show plWord xs n = (0, false) by simp [plWord, hp]]
    rw [hp] at HV
    clear ha hx hp
    generalize xs.length = len at *
    go_enter Tryd.func27, Tryd.ntmps27
    go_wp2_with fail
    refine HV.out.mono ?_
    rintro e w1 ⟨rfl, rfl⟩
    go_wp2_with fail
    go_ret2
    exact ⟨rfl, Below.refl _ _⟩
  rw [hp] at HV
  rcases isW_or n with hn | hn
  · have hwd : wdB n = true := by simpa [wdB, IsW] using hn
    rw [show plWord xs n = (((movN (natP xs) n.toNat : Nat) : Int), true) by simp [plWord, hp, hwd]]
    obtain ⟨hn0, hn1⟩ := hn
    obtain ⟨R, rfl⟩ := Int.eq_ofNat_of_zero_le hn0
    have HW := Lib.hid (l7Word_calls A c xs R (by omega) w ha hp)
    simp only [Int.toNat_natCast]
    clear ha hx hp hwd
    generalize xs.length = len at *
    generalize movN (natP xs) R = q at *
    go_enter Tryd.func27, Tryd.ntmps27
    go_wp2_with fail
    refine HV.out.mono ?_
    rintro e w1 ⟨rfl, rfl⟩
    go_wp2_with (go_at_call 64; refine (sWordValid_ok _ _ hn0 hn1).mono ?_; rintro e w' ⟨rfl, rfl⟩)
    refine HW.out.mono ?_
    rintro e w1 ⟨rfl, k, rfl⟩
    go_wp2_with fail
    go_ret2
    exact ⟨rfl, below_drewN (Below.refl _ _) k⟩
  · have hwd : wdB n = false := by
      simp only [wdB, decide_eq_false_iff_not]
      unfold NoW at hn
      omega
    rw [show plWord xs n = (0, false) by simp [plWord, hp, hwd]]
    clear ha hx hp hwd
    generalize xs.length = len at *
    go_enter Tryd.func27, Tryd.ntmps27
    go_wp2_with fail
    refine HV.out.mono ?_
    rintro e w1 ⟨rfl, rfl⟩
    go_wp2_with (go_at_call 64; refine (sWordValid_no _ _ hn).mono ?_; rintro e w' ⟨rfl, rfl⟩)
    go_ret2
    exact ⟨rfl, Below.refl _ _⟩
end Go.Proofs.YtakefnfhjiodnaaDoor
