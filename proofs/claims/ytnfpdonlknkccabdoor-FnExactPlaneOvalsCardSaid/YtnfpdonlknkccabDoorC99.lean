/- Ovals through two places of a base: the program's and the model's lists. -/
import Derived.Test.YtnfpdonlknkccabDoorC96
import Derived.Test.YtnfpdonlknkccabDoorC93
namespace Go.Proofs.YtnfpdonlknkccabDoor
open Go.RowKit Go.Shelf
set_option linter.unusedVariables false
attribute [local irreducible] octS cN octF syn

theorem own_two (w : World) (p q : Int) : Own (w.alloc (.cells #[.int .i64 p, .int .i64 q] 3)) w.heap.size (.slice (some ⟨w.heap.size, 0, none⟩) 2 2) [p, q] :=
  ⟨rfl, .inr ⟨w.heap.size, 2, _, rfl, Nat.le_refl _, heap_alloc_new w _, Nat.le_refl _, by unfold maxLen; omega, rfl, rfl⟩⟩
theorem addPl_some (t p : Int) : addPl (some t) p = if 0 ≤ p ∧ p ≤ 23 ∧ bitI t p = 0 then some (t + powI p) else none := rfl
theorem wof_two (P Q : Nat) (hP : P < 24) (hQ : Q < 24) (h : P ≠ Q) : wof [(P : Int), (Q : Int)] = some ((2 ^ P ||| 2 ^ Q : Nat) : Int) := by
  have e1 : addPl (some 0) (P : Int) = some (powI (P : Int)) := by
    have h0 : bitI 0 (P : Int) = 0 := by unfold bitI; simp
    rw [addPl_some, if_pos ⟨by omega, by omega, h0⟩]
    simp
  have e2 : addPl (some (powI (P : Int))) (Q : Int) = some (powI (P : Int) + powI (Q : Int)) := by
    have h0 : bitI (powI (P : Int)) (Q : Int) = 0 := by
      rw [powI_nat, bitI_nat, bit_pow2]
      simp [h]
    rw [addPl_some, if_pos ⟨by omega, by omega, h0⟩]
  show addPl (addPl (some 0) (P : Int)) (Q : Int) = _
  rw [e1, e2, powI_or P Q h]
theorem wof_two_no (p q : Int) (h : ¬ ((0 ≤ p ∧ p ≤ 23) ∧ (0 ≤ q ∧ q ≤ 23) ∧ p ≠ q)) : wof [p, q] = none := by
  show addPl (addPl (some 0) p) q = none
  by_cases hp : 0 ≤ p ∧ p ≤ 23
  · obtain ⟨P, rfl⟩ := Int.eq_ofNat_of_zero_le hp.1
    have h0 : bitI 0 (P : Int) = 0 := by unfold bitI; simp
    have e1 : addPl (some 0) (P : Int) = some (powI (P : Int)) := by
      rw [addPl_some, if_pos ⟨by omega, by omega, h0⟩]
      simp
    rw [e1]
    rw [addPl_some]
    refine if_neg fun hh => h ⟨hp, ⟨hh.1, hh.2.1⟩, fun e => ?_⟩
    have := hh.2.2
    rw [← e, powI_nat, bitI_nat, bit_pow2] at this
    simp at this
  · have e1 : addPl (some 0) p = none := by
      rw [addPl_some]
      exact if_neg fun hh => hp ⟨hh.1, hh.2.1⟩
    rw [e1]
    rfl
theorem wrap_two (P Q : Nat) (hP : P < 24) (hQ : Q < 24) (h : P ≠ Q) : wrap64 (wrap64 ((2 : Int) ^ P) + wrap64 ((2 : Int) ^ Q)) = ((2 ^ P ||| 2 ^ Q : Nat) : Int) := by
  have h1 : 2 ^ P < 2 ^ 24 := Nat.pow_lt_pow_right (by omega) hP
  have h2 : 2 ^ Q < 2 ^ 24 := Nat.pow_lt_pow_right (by omega) hQ
  have e1 : ((2 : Int) ^ P) = ((2 ^ P : Nat) : Int) := by simp
  have e2 : ((2 : Int) ^ Q) = ((2 ^ Q : Nat) : Int) := by simp
  rw [← pow_or P Q h, e1, e2]
  generalize 2 ^ P = a at *
  generalize 2 ^ Q = b at *
  unfold wrap64
  omega
theorem or_lt24 (P Q : Nat) (hP : P < 24) (hQ : Q < 24) : 2 ^ P ||| 2 ^ Q < 16777216 := by
  have h1 : 2 ^ P < 2 ^ 24 := Nat.pow_lt_pow_right (by omega) hP
  have h2 : 2 ^ Q < 2 ^ 24 := Nat.pow_lt_pow_right (by omega) hQ
  exact Nat.or_lt_two_pow h1 h2
theorem plOvals_base {b p q : Int} (h : baseB b = false) : plOvals b p q = ([], false) := by simp [plOvals, ovlB, h]
theorem plOvals_two {b p q : Int} (h : ¬ ((0 ≤ p ∧ p ≤ 23) ∧ (0 ≤ q ∧ q ≤ 23) ∧ p ≠ q)) : plOvals b p q = ([], false) := by
  have : ovlB b p q = false := by
    rw [Bool.eq_false_iff]
    intro hc
    simp only [ovlB, Bool.and_eq_true, decide_eq_true_eq] at hc
    exact h ⟨hc.2.1, hc.2.2.1, hc.2.2.2.1⟩
  simp [plOvals, this]
theorem plOvals_bits {B P Q : Nat} (hB : IsBase B) (hP : P < 24) (hQ : Q < 24) (h : P ≠ Q) : plOvals (B : Int) (P : Int) (Q : Int) = if B.testBit P && B.testBit Q then (ovl (B : Int) ((2 ^ P ||| 2 ^ Q : Nat) : Int), true) else ([], false) := by
  have h1 : decide ((0 : Int) ≤ P ∧ (P : Int) ≤ 23) = true := decide_eq_true ⟨by omega, by omega⟩
  have h2 : decide ((0 : Int) ≤ Q ∧ (Q : Int) ≤ 23) = true := decide_eq_true ⟨by omega, by omega⟩
  have h3 : decide ((P : Int) ≠ Q) = true := decide_eq_true (by omega)
  unfold plOvals ovlB
  rw [baseB_of hB, h1, h2, h3, bitI_nat, bitI_nat, powI_or P Q h]
  cases B.testBit P <;> cases B.testBit Q <;> simp
theorem all_bits {B P Q : Nat} : (andI (B : Int) ((2 ^ P ||| 2 ^ Q : Nat) : Int) == ((2 ^ P ||| 2 ^ Q : Nat) : Int)) = (B.testBit P && B.testBit Q) := by
  rw [andI_nat, Bool.eq_iff_iff, beq_iff_eq, Bool.and_eq_true, ← has_bits (l := B)]
  constructor
  · intro h; omega
  · intro h; omega
theorem ovals_calls (B T : Nat) (hB : IsBase B) (hT0 : T &&& B = T) (hT2 : pop T = 2) (w : World) (hT : Tab2 w) :
    Calls Tryd.prog 31 #[.int .u32 (B : Int), .int .u32 (T : Int)] w fun e w' => ∃ v, e = .returned v ∧ Own w' w.heap.size v (ovl (B : Int) (T : Int)) ∧ Below w.heap.size w w' := by
  obtain ⟨k, hk⟩ : ∃ k, k = 4096 := ⟨_, rfl⟩
  exact callsIn_wide.1 (ovals_in B T hB hT0 hT2 k hk w hT)
theorem placesFrom_two_yes (P Q : Nat) (hP : P < 24) (hQ : Q < 24) (h : P ≠ Q) (W : World) :
    Calls Tryd.prog 29 #[.slice (some ⟨W.heap.size, 0, none⟩) 2 2, .int .i64 2, .int .i64 2] (W.alloc (.cells #[.int .i64 (P : Int), .int .i64 (Q : Int)] 3)) fun e w' => e = .returned (.tuple #[.int .u32 ((2 ^ P ||| 2 ^ Q : Nat) : Int), .bool true]) ∧ W.alloc (.cells #[.int .i64 (P : Int), .int .i64 (Q : Int)] 3) = w' := by
  have := placesFrom_yes (some ⟨W.heap.size, 0, none⟩) 2 [(P : Int), (Q : Int)] 2 2 ((2 ^ P ||| 2 ^ Q : Nat) : Int) (W.alloc (.cells #[.int .i64 (P : Int), .int .i64 (Q : Int)] 3)) (own_two W P Q).rds (by unfold maxLen; simp) (by simp) (by simp) (wof_two P Q hP hQ h)
  rw [show [(P : Int), (Q : Int)].length = 2 from rfl] at this
  exact this
theorem placesFrom_two_no (p q : Int) (h : ¬ ((0 ≤ p ∧ p ≤ 23) ∧ (0 ≤ q ∧ q ≤ 23) ∧ p ≠ q)) (W : World) :
    Calls Tryd.prog 29 #[.slice (some ⟨W.heap.size, 0, none⟩) 2 2, .int .i64 2, .int .i64 2] (W.alloc (.cells #[.int .i64 p, .int .i64 q] 3)) fun e w' => e = .returned (.tuple #[.int .u32 0, .bool false]) ∧ W.alloc (.cells #[.int .i64 p, .int .i64 q] 3) = w' := by
  have := placesFrom_no (some ⟨W.heap.size, 0, none⟩) 2 [p, q] 2 2 (W.alloc (.cells #[.int .i64 p, .int .i64 q] 3)) (own_two W p q).rds (by unfold maxLen; simp) (.inr (.inr (wof_two_no p q h)))
  rw [show [p, q].length = 2 from rfl] at this
  exact this
set_option maxRecDepth 100000 in
set_option maxHeartbeats 2000000 in
theorem iPlaneOvals_calls (b p q : Int) (w : World) (hT : Tab2 w) :
    Calls Tryd.prog 14 #[.int .i64 b, .int .i64 p, .int .i64 q] w (GotL w (plOvals b p q).1 (plOvals b p q).2) := by
  rcases hb : baseB b with _ | _
  · rw [plOvals_base hb]
    have HBF := Lib.hid (baseFrom_no b hb)
    clear hb
    go_enter Tryd.func14, Tryd.ntmps14
    go_wp2_with (go_at_call 28; refine (HBF.out _).mono ?_; rintro e w' ⟨rfl, kk, rfl⟩)
    go_ret2
    exact ⟨_, rfl, Own.nil_ _ _, below_drewN (Below.refl _ _) kk⟩
  obtain ⟨B, rfl, hB⟩ := baseB_nat hb
  have HBF := Lib.hid (baseFrom_yes B hB)
  by_cases h2 : (0 ≤ p ∧ p ≤ 23) ∧ (0 ≤ q ∧ q ≤ 23) ∧ p ≠ q
  · obtain ⟨hp, hq, hpq⟩ := h2
    obtain ⟨P, rfl⟩ := Int.eq_ofNat_of_zero_le hp.1
    obtain ⟨Q, rfl⟩ := Int.eq_ofNat_of_zero_le hq.1
    have hP : P < 24 := by omega
    have hQ : Q < 24 := by omega
    have hne : P ≠ Q := by omega
    have HPY := Lib.hid (fun W => placesFrom_two_yes P Q hP hQ hne W)
    have hab := all_bits (B := B) (P := P) (Q := Q)
    have hpb := plOvals_bits hB hP hQ hne
    have hT0 : (2 ^ P ||| 2 ^ Q) < 16777216 := or_lt24 P Q hP hQ
    have hOV := ovals_calls B (2 ^ P ||| 2 ^ Q) hB
    have hp2 := pair_pop P Q hP hQ hne
    have hbits := has_bits (l := B) (p := P) (q := Q)
    rw [hpb]
    clear hpb hb hp hq hpq
    generalize 2 ^ P ||| 2 ^ Q = T at *
    have wB : IsW (B : Int) := ⟨by omega, by have := hB.1; omega⟩
    have wT : IsW (T : Int) := ⟨by omega, by omega⟩
    have HHA := Lib.hid (fun W => word_hasAll (B : Int) (T : Int) W wB wT)
    rw [hab] at HHA
    rcases hbb : (B.testBit P && B.testBit Q) with _ | _
    · rw [hbb] at HHA
      clear hOV hbits hab
      simp only [Bool.false_eq_true, if_false]
      go_enter Tryd.func14, Tryd.ntmps14
      go_wp2_with (go_at_call 28; refine (HBF.out _).mono ?_; rintro e w' ⟨rfl, kk, rfl⟩)
      have HB1 := Lib.hid (below_drewN (Below.refl w.heap.size w) kk)
      refine (HPY.out (w.drewN kk)).mono ?_
      rintro e w' ⟨rfl, rfl⟩
      go_wp2_with (go_at_call 30; refine (HHA.out _).mono ?_; rintro e w' ⟨rfl, rfl⟩)
      go_ret2
      exact ⟨_, rfl, Own.nil_ _ _, HB1.out.alloc HB1.out.size _⟩
    · rw [hbb] at HHA
      have hsub : T &&& B = T := by
        rw [Nat.and_comm]
        rw [Bool.and_eq_true] at hbb
        exact hbits.2 hbb
      have HOV := Lib.hid (fun W h => hOV hsub hp2 W h)
      clear hOV hbits hab
      simp only [if_true]
      generalize ovl (B : Int) (T : Int) = OV at *
      go_enter Tryd.func14, Tryd.ntmps14
      go_wp2_with (go_at_call 28; refine (HBF.out _).mono ?_; rintro e w' ⟨rfl, kk, rfl⟩)
      have HB1 := Lib.hid (below_drewN (Below.refl w.heap.size w) kk)
      refine (HPY.out (w.drewN kk)).mono ?_
      rintro e w' ⟨rfl, rfl⟩
      have HB2 := Lib.hid (HB1.out.alloc HB1.out.size (.cells #[.int .i64 (P : Int), .int .i64 (Q : Int)] 3))
      go_wp2_with (go_at_call 30; refine (HHA.out _).mono ?_; rintro e w' ⟨rfl, rfl⟩)
      refine (HOV.out _ (hT.below HB2.out hT.lt)).mono ?_
      rintro e w3 ⟨v, rfl, o3, b3⟩
      have HO3 := Lib.hid (o3.weak HB2.out.size)
      have HB3 := Lib.hid (HB2.out.trans (b3.mono HB2.out.size))
      clear o3 b3
      go_wp2_with fail
      go_ret2
      exact ⟨_, rfl, HO3.out, HB3.out⟩
  · rw [plOvals_two h2]
    have HPN := Lib.hid (fun W => placesFrom_two_no p q h2 W)
    clear hb h2
    go_enter Tryd.func14, Tryd.ntmps14
    go_wp2_with (go_at_call 28; refine (HBF.out _).mono ?_; rintro e w' ⟨rfl, kk, rfl⟩)
    have HB1 := Lib.hid (below_drewN (Below.refl w.heap.size w) kk)
    refine (HPN.out (w.drewN kk)).mono ?_
    rintro e w' ⟨rfl, rfl⟩
    go_wp2_with fail
    go_ret2
    exact ⟨_, rfl, Own.nil_ _ _, HB1.out.alloc HB1.out.size _⟩
set_option maxRecDepth 100000 in
set_option maxHeartbeats 2000000 in
theorem sPlaneOvals_calls (b p q : Int) (w : World) :
    Calls Tryd.prog 13 #[.int .i64 b, .int .i64 p, .int .i64 q] w (GotL w (plOvals b p q).1 (plOvals b p q).2) := by
  have HO := Lib.hid (own_empty w w.heap.size (Nat.le_refl _))
  have HA0 := Lib.hid ((Below.refl w.heap.size w).alloc (Nat.le_refl _) (.cells #[] 3))
  rcases hb : baseB b with _ | _
  · rw [plOvals_base hb]
    have HN := Lib.hid (l6pBase_no b hb)
    clear hb
    go_enter Tryd.func13, Tryd.ntmps13
    go_wp2_with (go_at_call 15; refine (HN.out _).mono ?_; rintro e w' ⟨rfl, rfl⟩)
    go_ret2
    exact ⟨_, rfl, HO.out, HA0.out⟩
  have HN := Lib.hid (l6pBase_yes b hb)
  by_cases hp : 0 ≤ p ∧ p ≤ 23
  · by_cases hq : 0 ≤ q ∧ q ≤ 23
    · by_cases hpq : p = q
      · rw [plOvals_two (fun h => h.2.2 hpq)]
        subst hpq
        clear hb
        go_enter Tryd.func13, Tryd.ntmps13
        go_wp2_with (first
          | (go_at_call 15; refine (HN.out _).mono ?_; rintro e w' ⟨rfl, rfl⟩)
          | (go_at_call 24; refine (l6In_ok _ _ _ _ (by omega) (by omega)).mono ?_; rintro e w' ⟨rfl, rfl⟩))
        go_ret2
        exact ⟨_, rfl, HO.out, HA0.out⟩
      · obtain ⟨B, rfl, hB⟩ := baseB_nat hb
        obtain ⟨P, rfl⟩ := Int.eq_ofNat_of_zero_le hp.1
        obtain ⟨Q, rfl⟩ := Int.eq_ofNat_of_zero_le hq.1
        have hP : P < 24 := by omega
        have hQ : Q < 24 := by omega
        have hne : P ≠ Q := by omega
        rw [plOvals_bits hB hP hQ hne]
        have hpqb : ((P : Int) == (Q : Int)) = false := by simpa using hpq
        have HBP := Lib.hid (fun W => l1Bit_calls (B : Int) (P : Int) W (by omega) (by omega))
        have HBQ := Lib.hid (fun W => l1Bit_calls (B : Int) (Q : Int) W (by omega) (by omega))
        rw [bitI_nat] at HBP HBQ
        clear hb hpq
        rcases hbp : B.testBit P with _ | _
        · rw [hbp] at HBP
          simp only [Bool.false_and, Bool.false_eq_true, if_false]
          generalize (B : Int) = b at *
          go_enter Tryd.func13, Tryd.ntmps13
          go_wp2_with (first
            | (go_at_call 15; refine (HN.out _).mono ?_; rintro e w' ⟨rfl, rfl⟩)
            | (go_at_call 24; refine (l6In_ok _ _ _ _ (by omega) (by omega)).mono ?_; rintro e w' ⟨rfl, rfl⟩))
          refine (HBP.out _).mono ?_
          rintro e w' ⟨rfl, rfl⟩
          go_wp2_with fail
          go_ret2
          exact ⟨_, rfl, HO.out, HA0.out⟩
        rcases hbq : B.testBit Q with _ | _
        · rw [hbp] at HBP
          rw [hbq] at HBQ
          simp only [Bool.and_false, Bool.false_eq_true, if_false]
          generalize (B : Int) = b at *
          go_enter Tryd.func13, Tryd.ntmps13
          go_wp2_with (first
            | (go_at_call 15; refine (HN.out _).mono ?_; rintro e w' ⟨rfl, rfl⟩)
            | (go_at_call 24; refine (l6In_ok _ _ _ _ (by omega) (by omega)).mono ?_; rintro e w' ⟨rfl, rfl⟩))
          refine (HBP.out _).mono ?_
          rintro e w' ⟨rfl, rfl⟩
          go_wp2_with fail
          refine (HBQ.out _).mono ?_
          rintro e w' ⟨rfl, rfl⟩
          go_wp2_with fail
          go_ret2
          exact ⟨_, rfl, HO.out, HA0.out⟩
        rw [hbp] at HBP
        rw [hbq] at HBQ
        simp only [Bool.and_self, if_true]
        have wB : IsW (B : Int) := ⟨by omega, by have := hB.1; omega⟩
        have wT : IsW ((2 ^ P ||| 2 ^ Q : Nat) : Int) := by have := or_lt24 P Q hP hQ; exact ⟨by omega, by omega⟩
        have HLEN := Lib.hid (show (ovl (B : Int) ((2 ^ P ||| 2 ^ Q : Nat) : Int)).length = 56 from ovl_len hB (has_bits.2 ⟨hbp, hbq⟩) (pair_pop P Q hP hQ hne))
        have hpw : powI (P : Int) + powI (Q : Int) = ((2 ^ P ||| 2 ^ Q : Nat) : Int) := powI_or P Q hne
        have HWT := Lib.hid (show wrap64 (wrap64 ((2 : Int) ^ P) + wrap64 ((2 : Int) ^ Q)) = ((2 ^ P ||| 2 ^ Q : Nat) : Int) from wrap_two P Q hP hQ hne)
        have HSX := Lib.hid (fun M (h1 : M.Perm ((octS.filter fun x => andI x (B : Int) == ((2 ^ P ||| 2 ^ Q : Nat) : Int)).map fun x => xorI x ((2 ^ P ||| 2 ^ Q : Nat) : Int))) h2 => show M = ovl (B : Int) ((2 ^ P ||| 2 ^ Q : Nat) : Int) from sortI_eq h1 h2)
        generalize ovl (B : Int) ((2 ^ P ||| 2 ^ Q : Nat) : Int) = OV at *
        generalize ((2 ^ P ||| 2 ^ Q : Nat) : Int) = t at *
        generalize (B : Int) = b at *
        clear hbp hbq
        go_enter Tryd.func13, Tryd.ntmps13
        go_wp2_with (first
          | (go_at_call 15; refine (HN.out _).mono ?_; rintro e w' ⟨rfl, rfl⟩)
          | (go_at_call 24; refine (l6In_ok _ _ _ _ (by omega) (by omega)).mono ?_; rintro e w' ⟨rfl, rfl⟩))
        refine (HBP.out _).mono ?_
        rintro e w' ⟨rfl, rfl⟩
        go_wp2_with fail
        refine (HBQ.out _).mono ?_
        rintro e w' ⟨rfl, rfl⟩
        go_wp2_with fail
        go_quiet (fail)
        go_wp2_with fail
        have hwt : wrap64 (wrap64 ((2 : Int) ^ P) + wrap64 ((2 : Int) ^ Q)) = t := HWT.out
        rw [hwt]
        clear hwt
        have HB0 := Lib.hid (below_drewN HA0.out nq)
        have HO0 := Lib.hid (HO.out.drewN nq)
        have hsz0 : ((w.alloc (.cells #[] 3)).drewN nq).heap.size = w.heap.size + 1 := by show (w.alloc _).heap.size = _; simp
        generalize (w.alloc (.cells #[] 3)).drewN nq = W0 at *
        refine (l4All_calls _).mono ?_
        rintro e w1 ⟨A, c, rfl, q1, q2, r1, a1, b1⟩
        have HB := Lib.hid (HB0.out.trans (b1.mono HB0.out.size))
        have HO1 := Lib.hid (HO0.out.below b1)
        have HR := Lib.hid r1
        have hs1 : w.heap.size < w1.heap.size := by have := b1.size; omega
        have HA := Lib.hid (show ∀ ad, A = some ad → w.heap.size < ad.block from fun ad h => by have := a1 ad h; omega)
        have HAU := Lib.hid (show ∀ ad, A = some ad → ad.block < w1.heap.size from fun ad h => by
          obtain ⟨b, o, e, hb, _⟩ := r1.at_ (j := 0) (by rw [octS_759]; decide)
          rw [e] at h; cases h; exact hb)
        clear b1 r1 a1 hsz0
        go_wp2_with fail
        go_loopw [8, 11] (fun v i wr => ∃ k : Nat, k ≤ 759 ∧ i = .int .i64 k ∧ Hid (Own wr w.heap.size v (((octS.take k).filter fun x => andI x b == t).map fun x => xorI x t)) ∧ Hid (Rds wr w1.heap.size .i64 A octS) ∧ Hid (∀ j, v.ownBlock = some j → j = w.heap.size ∨ w1.heap.size ≤ j) ∧ Hid (Below w.heap.size w wr) ∧ w1.heap.size ≤ wr.heap.size) (fun _ i _ => 759 - (intOf i).toNat)
        case atStart => exact ⟨0, by omega, rfl, HO1, HR, Lib.hid (fun j h => by simp [Value.ownBlock] at h; omega), HB, Nat.le_refl _⟩
        case round =>
          obtain ⟨k, hk, rfl, ho, hr, hj, hb, hz⟩ := hrel
          by_cases hlt : k < 759
          · have HS := Lib.hid (show (octS.take (k + 1)).filter (fun x => andI x b == t) = if andI (octS.getD k 0) b == t then (octS.take k).filter (fun x => andI x b == t) ++ [octS.getD k 0] else (octS.take k).filter (fun x => andI x b == t) by rw [oct_take k hlt, filter_snoc])
            obtain ⟨bb, o, rfl, hb1, hc⟩ := hr.out.at_ (j := k) (by rw [octS_759]; exact hlt)
            have hx := (oct_at k hlt).rng
            have hl : (((octS.take k).filter fun x => andI x b == t).map fun x => xorI x t).length ≤ 759 := by
              rw [List.length_map]
              have h1 := List.length_filter_le (fun x => andI x b == t) (octS.take k)
              have h2 := List.length_take_le k octS
              omega
            have hq1 : (0 : Int) ≤ (k : Int) := by omega
            have hq2 : (k : Int) < 759 := by omega
            generalize octS.getD k 0 = x at *
            have hxw := and_i64w x b hx wB
            have hxx : bits .xor .i64 x t = xorI x t := xor_i64 x t hx.1 (by omega) wT.1 (by have := wT.2; omega)
            generalize (octS.take k).filter (fun x => andI x b == t) = L at *
            cases hP : andI x b == t
            · have HS2 := Lib.hid (show (octS.take (k + 1)).filter (fun x => andI x b == t) = L by rw [HS.out, hP]; rfl)
              go_wp2_with fail
              go_roundw
              case rel => exact ⟨k + 1, by omega, by go_num, by rw [HS2.out]; exact ho, hr, hj, hb, hz⟩
              case measure => simp [intOf]; omega
            · have HS2 := Lib.hid (show ((octS.take (k + 1)).filter (fun x => andI x b == t)).map (fun x => xorI x t) = L.map (fun x => xorI x t) ++ [xorI x t] by rw [HS.out, hP, if_pos rfl, List.map_append]; rfl)
              generalize L.map (fun x => xorI x t) = M at *
              go_wp2_with (at_builtin; refine wpList_pushAt rfl _ _ rfl _ w.heap.size _ _ _ _ rfl rfl (by exact ho.out) (by omega) (by omega) ?_; intro v2 w2 ho2 hb2 hg2 hat)
              go_roundw
              case rel =>
                refine ⟨k + 1, by omega, by go_num, by rw [HS2.out]; exact Lib.hid ho2, Lib.hid (hr.out.apart hg2 hz fun ad h e => ?_), Lib.hid (fun j h => ?_), Lib.hid (hb.out.trans hb2), Nat.le_trans hz hg2.size⟩
                · have h1 := HA.out ad h
                  have h2 := HAU.out ad h
                  rcases hj.out _ e with h3 | h3 <;> omega
                · rcases hat j h with h1 | h1
                  · exact hj.out j h1
                  · exact .inr (by omega)
              case measure => simp [intOf]; omega
          · obtain rfl : k = 759 := by omega
            rw [oct_take_all] at ho
            have hlen : ((octS.filter fun x => andI x b == t).map fun x => xorI x t).length = 56 := by
              rw [← HLEN.out, ← HSX.out _ (sortI_perm _) (sortI_pair _), sortI_len]
            obtain ⟨A2, c2, rfl⟩ := ho.out.slice
            obtain ⟨q1, q2⟩ := own_caps ho.out
            have HLN := Lib.hid hlen
            rw [hlen] at q1
            have HSORT := Lib.hid (l4Sort_calls 56 ((octS.filter fun x => andI x b == t).map fun x => xorI x t) A2 c2 wr hlen (by omega) q1 q2 ho.out.rds)
            clear hlen
            generalize ((octS.filter fun x => andI x b == t).map fun x => xorI x t) = M at *
            rw [HLN.out]
            go_wp2_with fail
            refine HSORT.out.mono ?_
            rintro e w3 ⟨A', c', ys, rfl, p1, s1, l1, m1, r1, a1, b3, of⟩
            have hys := HSX.out ys p1 s1
            have ow := Lib.hid ((of (by omega)).weak hb.out.size)
            have hB3 := hb.out.trans (b3.mono hb.out.size)
            rw [hys] at ow
            go_wp2_with fail
            go_ret2
            exact ⟨_, rfl, ow.out, hB3⟩
    · rw [plOvals_two (fun h => hq h.2.1)]
      clear hb
      go_enter Tryd.func13, Tryd.ntmps13
      go_wp2_with (first
        | (go_at_call 15; refine (HN.out _).mono ?_; rintro e w' ⟨rfl, rfl⟩)
        | (go_at_call 24; refine (l6In_ok _ _ _ _ (by omega) (by omega)).mono ?_; rintro e w' ⟨rfl, rfl⟩)
        | (go_at_call 24; refine (l6In_no _ _ _ _ (by omega)).mono ?_; rintro e w' ⟨rfl, rfl⟩))
      go_ret2
      exact ⟨_, rfl, HO.out, HA0.out⟩
  · rw [plOvals_two (fun h => hp h.1)]
    clear hb
    go_enter Tryd.func13, Tryd.ntmps13
    go_wp2_with (first
      | (go_at_call 15; refine (HN.out _).mono ?_; rintro e w' ⟨rfl, rfl⟩)
      | (go_at_call 24; refine (l6In_no _ _ _ _ (by omega)).mono ?_; rintro e w' ⟨rfl, rfl⟩))
    go_ret2
    exact ⟨_, rfl, HO.out, HA0.out⟩
end Go.Proofs.YtnfpdonlknkccabDoor
