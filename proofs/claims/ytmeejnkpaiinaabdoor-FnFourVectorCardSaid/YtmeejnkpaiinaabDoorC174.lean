/- The lattice of the program: LatticeFlip, LatticeOctad, LatticeThree, LatticeFour. -/
import Derived.Test.YtmeejnkpaiinaabDoorC175
import Derived.Test.YtmeejnkpaiinaabDoorC168
import Derived.Test.YtmeejnkpaiinaabDoorQ7
import Derived.Test.YtmeejnkpaiinaabDoorW7
namespace Go.Proofs.YtmeejnkpaiinaabDoor
open Go.RowKit
set_option linter.unusedVariables false
set_option linter.unusedSimpArgs false
attribute [local irreducible] cN syn

theorem vL_rng (f : Nat → Int) (M : Int) (h0 : 0 ≤ M) (h : ∀ p, p < 24 → -M ≤ f p ∧ f p ≤ M) (p : Nat) : -M ≤ (vL f).getD p 0 ∧ (vL f).getD p 0 ≤ M := by
  by_cases hp : p < 24
  · rw [vL_get f p hp]; exact h p hp
  · have : (vL f).getD p 0 = 0 := by
      show (vL f)[p]?.getD 0 = 0
      rw [List.getElem?_eq_none (by rw [vL_len]; omega)]; rfl
    omega
theorem flip_vL (m : Nat) (f : Nat → Int) : vL (flipF m (atL (vL f))) = vL (flipF m f) := vL_ext _ _ fun p hp => by unfold flipF; rw [atL_vL _ p hp]
set_option maxRecDepth 100000 in
set_option maxHeartbeats 4000000 in
theorem iLatticeFlip_calls (A : Option Addr) (c : Nat) (xs : List Int) (n : Int) (w : World) (ha : Rds w w.heap.size .i64 A xs) (hx : xs.length ≤ maxLen) (hT : TabB w) :
    Calls Tryd.prog 14 #[.slice A xs.length c, .int .i64 n] w (GotV w (lvFlip xs n).1 (lvFlip xs n).2) := by
  have hT0 := hT.lt
  have HF := Lib.hid (vecFrom_calls A c xs w ha hx)
  have HI := Lib.hid (vcInfoL (vcL xs) (vcL_len xs))
  have HSZ := Lib.hid (show (VL z24).size = (VL (vcL xs)).size by rw [VL_size, VL_size, vcL_len]; rfl)
  have HALL := Lib.hid (VL_all (vcL xs))
  rcases hb : vecB xs with _ | _
  · rw [show lvFlip xs n = ([], false) by simp [lvFlip, hb]]
    rw [hb] at HF
    clear ha hx hb
    generalize xs.length = m at *
    generalize VL (vcL xs) = V at *
    go_enter Tryd.func14, Tryd.ntmps14
    go_wp2_with fail
    refine HF.out.mono ?_
    rintro e w1 ⟨rfl, b1⟩
    have HN := Lib.hid (Blk.new w1 48 (VL z24))
    have HB := Lib.hid (b1.alloc b1.size (.cells (VL z24) 48))
    have hw1 := b1.size
    clear b1
    go_wp2_with (refine wpList_store_row rfl 48 _ _ rfl w1.heap.size V rfl rfl 48 (VL z24) HN.out HI.out HSZ.out HALL.out ?_)
    go_ret2
    exact ⟨_, rfl, OwnV.nil_ _ _, bel_row HB.out hw1⟩
  rcases hw : wordB n with _ | _
  · rw [show lvFlip xs n = ([], false) by simp [lvFlip, hw]]
    have hn := (wordB_no n).1 hw
    rw [hb] at HF
    clear ha hx hb hw
    generalize xs.length = m at *
    generalize VL (vcL xs) = V at *
    go_enter Tryd.func14, Tryd.ntmps14
    go_wp2_with fail
    refine HF.out.mono ?_
    rintro e w1 ⟨rfl, b1⟩
    have HN := Lib.hid (Blk.new w1 48 (VL z24))
    have HB := Lib.hid (b1.alloc b1.size (.cells (VL z24) 48))
    have hw1 := b1.size
    clear b1
    go_wp2_with (first
      | (refine wpList_store_row rfl 48 _ _ rfl w1.heap.size V rfl rfl 48 (VL z24) HN.out HI.out HSZ.out HALL.out ?_)
      | (go_at_call 42; refine (wordFrom_no _ _ hn).mono ?_; rintro e w' ⟨rfl, rfl⟩))
    go_ret2
    exact ⟨_, rfl, OwnV.nil_ _ _, bel_row HB.out hw1⟩
  · have hn := (wordB_iff n).1 hw
    obtain ⟨R, rfl⟩ := Int.eq_ofNat_of_zero_le hn.1
    rw [show lvFlip xs (R : Int) = (vL (flipF R (atL xs)), true) by simp [lvFlip, hb, hw, flipL]]
    have HFL := Lib.hid (fun W h => flipped_calls xs R (by omega) (vecB_len hb) (vecB_rng hb) W h)
    have HLI := Lib.hid (fun W => vecList_calls (vL (flipF R (atL xs))) W (vL_len _))
    rw [hb] at HF
    rw [vcL_yes (vecB_len hb)] at HF HI HSZ HALL
    clear ha hx hb hw
    generalize xs.length = m at *
    generalize vL (flipF R (atL xs)) = ts at *
    generalize VL xs = V at *
    go_enter Tryd.func14, Tryd.ntmps14
    go_wp2_with fail
    refine HF.out.mono ?_
    rintro e w1 ⟨rfl, b1⟩
    have HN := Lib.hid (Blk.new w1 48 (VL z24))
    have HB := Lib.hid (bel_row (T := V) (b1.alloc b1.size (.cells (VL z24) 48)) b1.size)
    have HV := Lib.hid (setRow_heap _ _ _ V _ _ HN.out)
    clear b1
    go_wp2_with (first
      | (refine wpList_store_row rfl 48 _ _ rfl w1.heap.size V rfl rfl 48 (VL z24) HN.out HI.out HSZ.out HALL.out ?_)
      | (go_at_call 42; refine (wordFrom_ok _ _ hn.1 hn.2).mono ?_; rintro e w' ⟨rfl, rfl⟩)
      | (refine wpList_load_row rfl 48 _ rfl w1.heap.size rfl 48 V (0, 0) _ HV.out Tryd.underlying48 rfl HI.out ?_))
    refine (HFL.out _ (hT.below HB.out hT0)).mono ?_
    rintro e w2 ⟨rfl, b2⟩
    have HB2 := Lib.hid (HB.out.trans (b2.mono HB.out.size))
    clear b2
    go_wp2_with fail
    refine (HLI.out _).mono ?_
    rintro e w3 ⟨v, rfl, o3, b3⟩
    go_wp2_with fail
    go_ret2
    exact ⟨_, rfl, o3.weak HB2.out.size, HB2.out.trans (b3.mono HB2.out.size)⟩
set_option maxRecDepth 100000 in
set_option maxHeartbeats 4000000 in
theorem iLatticeOctad_calls (n s : Int) (w : World) (hT : Tab3 w) :
    Calls Tryd.prog 25 #[.int .i64 n, .int .i64 s] w (GotV w (lvOct n s).1 (lvOct n s).2) := by
  have hT0 := hT.lt
  rcases hc : oIn n with _ | _
  · rw [show lvOct n s = ([], false) by unfold lvOct; rw [show (cIn n && decide (wt n = 8)) = false from hc]; rfl]
    go_enter Tryd.func25, Tryd.ntmps25
    go_wp2_with fail
    refine (octadFrom_no n w hc hT).mono ?_
    rintro e w1 ⟨rfl, b1⟩
    go_wp2_with fail
    go_ret2
    exact ⟨_, rfl, OwnV.nil_ _ _, b1⟩
  have HOF := Lib.hid (octadFrom_yes n w hc hT)
  by_cases hs : 0 ≤ s ∧ s ≤ 127
  · obtain ⟨hs0, hs1⟩ := hs
    have hw := oIn_w hc
    rw [show lvOct n s = (vL (octV n.toNat s.toNat), true) by unfold lvOct; rw [show (cIn n && decide (wt n = 8)) = true from hc, decide_eq_true (show 0 ≤ s ∧ s ≤ 127 from ⟨hs0, hs1⟩)]; rfl]
    obtain ⟨R, rfl⟩ := Int.eq_ofNat_of_zero_le hw.1.1
    obtain ⟨S, rfl⟩ := Int.eq_ofNat_of_zero_le hs0
    rw [Int.toNat_natCast, Int.toNat_natCast]
    have h8 : pop R = 8 := by have := hw.2.2; rw [wt_pop] at this; omega
    have hR : R < 16777216 := by have := hw.1.2; omega
    have HV := Lib.hid (fun W h => wvector_calls R 2 hR W h)
    have HM := Lib.hid (fun W h => minus_calls R S hR h8 (by omega) W h)
    have HFL := Lib.hid (fun W h => flipped_calls (vL fun p => if R.testBit p then 2 else 0) (minusW R S) (minusW_lt R S) (vL_len _) (vL_rng _ 100000 (by omega) fun p _ => by cases R.testBit p <;> simp) W h)
    have hfo : vL (flipF (minusW R S) (atL (vL fun p => if R.testBit p then 2 else 0))) = vL (octV R S) := by
      rw [flip_vL]
      exact vL_ext _ _ fun p hp => oct_flip R S p hp
    rw [hfo] at HFL
    have HLI := Lib.hid (fun W => vecList_calls (vL (octV R S)) W (vL_len _))
    have g0 : decide ((S : Int) < 0) = false := by simp
    have g1 : decide ((S : Int) ≥ 128) = false := by simp; omega
    clear hfo hw hc h8 hR
    generalize vL (octV R S) = ts at *
    generalize VL (vL fun p => if R.testBit p then 2 else 0) = V0 at *
    generalize minusW R S = MW at *
    go_enter Tryd.func25, Tryd.ntmps25
    go_wp2_with fail
    refine HOF.out.mono ?_
    rintro e w1 ⟨rfl, b1⟩
    have B1 := Lib.hid b1
    clear b1
    go_wp2_with fail
    refine (HV.out _ (hT.1.below B1.out hT.1.lt)).mono ?_
    rintro e w2 ⟨rfl, b2⟩
    have B2 := Lib.hid (B1.out.trans (b2.mono B1.out.size))
    clear b2
    go_wp2_with fail
    refine (HM.out _ (hT.1.below B2.out hT.1.lt)).mono ?_
    rintro e w3 ⟨rfl, b3⟩
    have B3 := Lib.hid (B2.out.trans (b3.mono B2.out.size))
    clear b3
    go_wp2_with fail
    refine (HFL.out _ (hT.1.below B3.out hT.1.lt)).mono ?_
    rintro e w4 ⟨rfl, b4⟩
    have B4 := Lib.hid (B3.out.trans (b4.mono B3.out.size))
    clear b4
    go_wp2_with fail
    refine (HLI.out _).mono ?_
    rintro e w5 ⟨v, rfl, o5, b5⟩
    go_wp2_with fail
    go_ret2
    exact ⟨_, rfl, o5.weak B4.out.size, B4.out.trans (b5.mono B4.out.size)⟩
  · rw [show lvOct n s = ([], false) by unfold lvOct; rw [show (cIn n && decide (wt n = 8)) = true from hc, decide_eq_false hs]; rfl]
    by_cases hs0 : s < 0
    · clear hc hs
      go_enter Tryd.func25, Tryd.ntmps25
      go_wp2_with fail
      refine HOF.out.mono ?_
      rintro e w1 ⟨rfl, b1⟩
      go_wp2_with fail
      go_ret2
      exact ⟨_, rfl, OwnV.nil_ _ _, b1⟩
    · have hs1 : 128 ≤ s := by omega
      clear hc hs
      go_enter Tryd.func25, Tryd.ntmps25
      go_wp2_with fail
      refine HOF.out.mono ?_
      rintro e w1 ⟨rfl, b1⟩
      go_wp2_with fail
      go_ret2
      exact ⟨_, rfl, OwnV.nil_ _ _, b1⟩
theorem ones_vL : (vL fun p => if (16777215 : Nat).testBit p then 1 else 0) = List.replicate 24 1 := by decide +kernel
set_option maxRecDepth 100000 in
set_option maxHeartbeats 4000000 in
theorem iLatticeThree_calls (n q : Int) (w : World) (hT : Tab3 w) :
    Calls Tryd.prog 28 #[.int .i64 n, .int .i64 q] w (GotV w (lvThree n q).1 (lvThree n q).2) := by
  have hT0 := hT.lt
  rcases hw : wordB n with _ | _
  · rw [show lvThree n q = ([], false) by simp [lvThree, cIn, hw]]
    have hn := (wordB_no n).1 hw
    clear hw
    go_enter Tryd.func28, Tryd.ntmps28
    go_wp2_with (go_at_call 42; refine (wordFrom_no _ _ hn).mono ?_; rintro e w' ⟨rfl, rfl⟩)
    go_ret2
    exact ⟨_, rfl, OwnV.nil_ _ _, Below.refl _ _⟩
  have hn := (wordB_iff n).1 hw
  have HC := Lib.hid (word_inCode n w hn hT)
  rcases hc : codeInB n with _ | _
  · rw [show lvThree n q = ([], false) by simp [lvThree, cIn, hc]]
    rw [hc] at HC
    clear hw hc
    go_enter Tryd.func28, Tryd.ntmps28
    go_wp2_with (go_at_call 42; refine (wordFrom_ok _ _ hn.1 hn.2).mono ?_; rintro e w' ⟨rfl, rfl⟩)
    refine HC.out.mono ?_
    rintro e w1 ⟨rfl, b1⟩
    go_wp2_with fail
    go_ret2
    exact ⟨_, rfl, OwnV.nil_ _ _, b1⟩
  rw [hc] at HC
  by_cases hq : 0 ≤ q ∧ q ≤ 23
  · obtain ⟨hq0, hq1⟩ := hq
    obtain ⟨R, rfl⟩ := Int.eq_ofNat_of_zero_le hn.1
    obtain ⟨Q, rfl⟩ := Int.eq_ofNat_of_zero_le hq0
    rw [show lvThree (R : Int) (Q : Int) = (vL (flipF R (threeV Q)), true) by simp [lvThree, cIn, hw, hc]; omega]
    have HV := Lib.hid (fun W h => wvector_calls 16777215 1 (by omega) W h)
    rw [ones_vL] at HV
    have HFL := Lib.hid (fun W h => flipped_calls (vL (threeV Q)) R (by omega) (vL_len _) (three_at Q) W h)
    rw [flip_vL] at HFL
    have HLI := Lib.hid (fun W => vecList_calls (vL (flipF R (threeV Q))) W (vL_len _))
    have HSET := Lib.hid (ones_set Q (by omega))
    have HI := Lib.hid (vcInfoL (List.replicate 24 1) (by simp))
    have HSZ := Lib.hid (show (VL z24).size = (VL (List.replicate 24 1)).size from rfl)
    have HALL := Lib.hid (VL_all (List.replicate 24 1))
    have HI3 := Lib.hid (vcInfoL (vL (threeV Q)) (vL_len _))
    have h1 : (Q : Int) < 24 := by omega
    have h0 : (0 : Int) ≤ (Q : Int) := by omega
    clear hw hc
    generalize vL (flipF R (threeV Q)) = ts at *
    generalize vL (threeV Q) = us at *
    go_enter Tryd.func28, Tryd.ntmps28
    go_wp2_with (go_at_call 42; refine (wordFrom_ok _ _ hn.1 hn.2).mono ?_; rintro e w' ⟨rfl, rfl⟩)
    refine HC.out.mono ?_
    rintro e w1 ⟨rfl, b1⟩
    have B1 := Lib.hid b1
    clear b1
    go_wp2_with (go_at_call 64; refine (placeValid_ok _ _ h0 hq1).mono ?_; rintro e w' ⟨rfl, rfl⟩)
    refine (HV.out _ (hT.1.below B1.out hT.1.lt)).mono ?_
    rintro e w2 ⟨rfl, b2⟩
    have B2 := Lib.hid (B1.out.trans (b2.mono B1.out.size))
    have N0 := Lib.hid (heap_alloc_new w2 (.cells (VL z24) 48))
    have N1 := Lib.hid (setRow_heap _ _ _ (VL (List.replicate 24 1)) _ _ N0.out)
    have B3 := Lib.hid (bel_row (T := VL (List.replicate 24 1)) (B2.out.alloc B2.out.size (.cells (VL z24) 48)) B2.out.size)
    have hcx : ((w2.alloc (.cells #[.int .i64 0, .int .i64 0, .int .i64 0, .int .i64 0, .int .i64 0, .int .i64 0, .int .i64 0, .int .i64 0, .int .i64 0, .int .i64 0, .int .i64 0, .int .i64 0, .int .i64 0, .int .i64 0, .int .i64 0, .int .i64 0, .int .i64 0, .int .i64 0, .int .i64 0, .int .i64 0, .int .i64 0, .int .i64 0, .int .i64 0, .int .i64 0] 48)).setRow w2.heap.size (VL (List.replicate 24 1))).cell? ⟨w2.heap.size, Q, none⟩ = _ := VL_at (j := Q) (List.replicate 24 1) (by simp; omega) N1.out
    have hfx : ((w2.alloc (.cells #[.int .i64 0, .int .i64 0, .int .i64 0, .int .i64 0, .int .i64 0, .int .i64 0, .int .i64 0, .int .i64 0, .int .i64 0, .int .i64 0, .int .i64 0, .int .i64 0, .int .i64 0, .int .i64 0, .int .i64 0, .int .i64 0, .int .i64 0, .int .i64 0, .int .i64 0, .int .i64 0, .int .i64 0, .int .i64 0, .int .i64 0, .int .i64 0] 48)).setRow w2.heap.size (VL (List.replicate 24 1))).frozen? ⟨w2.heap.size, Q, none⟩ = false := Lib.frozen_of_heap N1.out Q
    have N2' := VL_set (j := Q) (List.replicate 24 1) (-3) N1.out
    rw [HSET.out] at N2'
    have N2 := Lib.hid N2'
    have B4 := Lib.hid (B3.out.setCell (p := ⟨w2.heap.size, Q, none⟩) B2.out.size (.int .i64 (-3)))
    clear b2 N2'
    generalize (List.replicate 24 (1 : Int)).getD Q 0 = z at *
    generalize VL us = V3 at *
    generalize VL (List.replicate 24 (1 : Int)) = V1 at *
    go_wp2_with (first
      | (refine wpList_store_row rfl 48 _ _ rfl w2.heap.size V1 rfl rfl 48 (VL z24) N0.out HI.out HSZ.out HALL.out ?_)
      | (refine wpList_load_row rfl 48 _ rfl w2.heap.size rfl 48 V3 (0, 0) _ N2.out Tryd.underlying48 rfl HI3.out ?_))
    refine (HFL.out _ (hT.1.below B4.out hT.1.lt)).mono ?_
    rintro e w3 ⟨rfl, b3⟩
    have B5 := Lib.hid (B4.out.trans (b3.mono B4.out.size))
    clear b3
    go_wp2_with fail
    refine (HLI.out _).mono ?_
    rintro e w5 ⟨v, rfl, o5, b5⟩
    go_wp2_with fail
    go_ret2
    exact ⟨_, rfl, o5.weak B5.out.size, B5.out.trans (b5.mono B5.out.size)⟩
  · rw [show lvThree n q = ([], false) by simp [lvThree, cIn, hw, hc]; omega]
    have hq' : q < 0 ∨ 23 < q := by omega
    clear hw hc hq
    go_enter Tryd.func28, Tryd.ntmps28
    go_wp2_with (go_at_call 42; refine (wordFrom_ok _ _ hn.1 hn.2).mono ?_; rintro e w' ⟨rfl, rfl⟩)
    refine HC.out.mono ?_
    rintro e w1 ⟨rfl, b1⟩
    go_wp2_with (go_at_call 64; refine (placeValid_no _ _ hq').mono ?_; rintro e w' ⟨rfl, rfl⟩)
    go_ret2
    exact ⟨_, rfl, OwnV.nil_ _ _, b1⟩
theorem own_twoV (w : World) (p q : Int) : Own (w.alloc (.cells #[.int .i64 p, .int .i64 q] 3)) w.heap.size (.slice (some ⟨w.heap.size, 0, none⟩) 2 2) [p, q] :=
  ⟨rfl, .inr ⟨w.heap.size, 2, _, rfl, Nat.le_refl _, heap_alloc_new w _, Nat.le_refl _, by unfold maxLen; omega, rfl, rfl⟩⟩
theorem wof_someV : ∀ (n : Nat) (xs : List Int), xs.length = n → xs.Nodup → (∀ x ∈ xs, 0 ≤ x ∧ x ≤ 23) → ∃ t, wof xs = some t := by
  intro n
  induction n with
  | zero =>
    intro xs hl _ _
    obtain rfl := List.eq_nil_of_length_eq_zero hl
    exact ⟨0, rfl⟩
  | succ n ih =>
    intro xs hl hn hr
    rcases List.eq_nil_or_concat xs with rfl | ⟨L, x, rfl⟩
    · simp at hl
    · rw [List.concat_eq_append] at hl hn hr ⊢
      have hn' := List.nodup_append.1 hn
      obtain ⟨t, ht⟩ := ih L (by simpa using hl) hn'.1 (fun y hy => hr y (List.mem_append_left _ hy))
      obtain ⟨_, _, _, _, hb⟩ := wof_char _ L t rfl ht
      have hx := hr x (by simp)
      have hnx : x ∉ L := fun hx' => hn'.2.2 x hx' x (by simp) rfl
      rw [wof_snoc, ht]
      refine ⟨t + powI x, ?_⟩
      simp only [addPl]
      rw [if_pos ⟨hx.1, hx.2, by rw [hb x hx.1, if_neg hnx]⟩]
theorem wof_pair (a b : Nat) (ha : a < 24) (hb : b < 24) (h : a ≠ b) : ∃ T : Nat, wof [(a : Int), (b : Int)] = some (T : Int) ∧ T < 16777216 ∧ ∀ p, T.testBit p = decide (p = a ∨ p = b) := by
  obtain ⟨t, ht⟩ := wof_someV 2 [(a : Int), (b : Int)] rfl (by simp only [List.nodup_cons, List.mem_singleton, List.not_mem_nil, not_false_eq_true, List.nodup_nil, and_true]; omega) (by intro x hx; simp only [List.mem_cons, List.not_mem_nil, or_false] at hx; omega)
  obtain ⟨⟨t0, t1⟩, _, _, _, hbit⟩ := wof_char 2 _ t rfl ht
  obtain ⟨T, rfl⟩ := Int.eq_ofNat_of_zero_le t0
  refine ⟨T, ht, by omega, fun p => ?_⟩
  have := hbit (p : Int) (by omega)
  rw [bitI_nat] at this
  have hm : ((p : Int) ∈ [(a : Int), (b : Int)]) ↔ (p = a ∨ p = b) := by
    simp only [List.mem_cons, List.not_mem_nil, or_false]
    omega
  by_cases e : p = a ∨ p = b
  · rw [if_pos (hm.2 e)] at this
    rw [decide_eq_true e]
    cases hT : T.testBit p
    · simp [hT] at this
    · rfl
  · rw [if_neg (fun h => e (hm.1 h))] at this
    rw [decide_eq_false e]
    cases hT : T.testBit p
    · rfl
    · simp [hT] at this
theorem wof_pair_no (p q : Int) (h : ¬ ((0 ≤ p ∧ p ≤ 23) ∧ (0 ≤ q ∧ q ≤ 23) ∧ p ≠ q)) : wof [p, q] = none := by
  cases hw : wof [p, q] with
  | none => rfl
  | some t =>
    obtain ⟨_, hn, hr, _, _⟩ := wof_char 2 _ t rfl hw
    exact absurd ⟨hr p (by simp), hr q (by simp), fun e => by simp [e] at hn⟩ h
theorem vFrom_yes (A : Option Addr) (c : Nat) (xs : List Int) (lo hi t : Int) (w : World) (ha : Rds w w.heap.size .i64 A xs) (hx : xs.length ≤ maxLen) (h1 : lo ≤ xs.length) (h2 : xs.length ≤ hi) (ht : wof xs = some t) (t0 : 0 ≤ t) (t1 : t ≤ 16777215) :
    Calls Tryd.prog 66 #[.slice A xs.length c, .int .i64 lo, .int .i64 hi] w fun e w' => e = .returned (.tuple #[.int .u32 t, .bool true]) ∧ w = w' := by
  have hx' := hx
  unfold maxLen at hx'
  have hc : IntKind.u32.wrap t = t := wrap_u32_in t t0 (by omega)
  have HS := Lib.hid (iWordOf_calls A c xs w ha hx)
  rw [ht] at HS
  clear ht ha
  go_enter Tryd.func66, Tryd.ntmps66
  go_wp2_with (go_at_call 85; refine HS.out.mono ?_; rintro e w' ⟨he, rfl⟩; simp only [resW] at he; subst he)
  go_ret2
  exact ⟨rfl, rfl⟩
theorem vFrom_no (A : Option Addr) (c : Nat) (xs : List Int) (lo hi : Int) (w : World) (ha : Rds w w.heap.size .i64 A xs) (hx : xs.length ≤ maxLen) (h1 : lo ≤ xs.length) (h2 : xs.length ≤ hi) (h3 : wof xs = none) :
    Calls Tryd.prog 66 #[.slice A xs.length c, .int .i64 lo, .int .i64 hi] w fun e w' => e = .returned (.tuple #[.int .u32 0, .bool false]) ∧ w = w' := by
  have hx' := hx
  unfold maxLen at hx'
  have HS := Lib.hid (iWordOf_calls A c xs w ha hx)
  rw [h3] at HS
  clear h3 ha
  go_enter Tryd.func66, Tryd.ntmps66
  go_wp2_with (go_at_call 85; refine HS.out.mono ?_; rintro e w' ⟨he, rfl⟩; simp only [resW] at he; subst he)
  go_ret2
  exact ⟨rfl, rfl⟩
theorem pair_four (T a b : Nat) (ha : a < 24) (hb : b < 24) (hT : ∀ p, T.testBit p = decide (p = a ∨ p = b)) : (vL fun p => if T.testBit p then 4 else 0) = vL (fourV a b false false) := vL_ext _ _ fun p hp => by
  rw [hT]
  unfold fourV fourS
  by_cases h1 : p = b
  · simp [h1]
  · by_cases h2 : p = a
    · simp [h2]
    · simp [h1, h2]
theorem four_flip1 (a b : Nat) (g : Bool) (ha : a < 24) (hab : a ≠ b) : (vL (fourV a b false g)).getD a 0 = 4 ∧ (vL (fourV a b false g)).set a (-4) = vL (fourV a b true g) := by
  refine ⟨?_, ?_⟩
  · rw [vL_get _ a ha]; simp [fourV, fourS, hab]
  · rw [vL_set _ a _ ha]
    refine vL_ext _ _ fun p hp => ?_
    unfold fourV fourS
    by_cases h : p = a
    · subst h; simp [hab]
    · simp [h]
theorem four_flip2 (a b : Nat) (f : Bool) (hb : b < 24) : (vL (fourV a b f false)).getD b 0 = 4 ∧ (vL (fourV a b f false)).set b (-4) = vL (fourV a b f true) := by
  refine ⟨?_, ?_⟩
  · rw [vL_get _ b hb]; simp [fourV, fourS]
  · rw [vL_set _ b _ hb]
    refine vL_ext _ _ fun p hp => ?_
    unfold fourV fourS
    by_cases h : p = b
    · subst h; simp
    · simp [h]
set_option maxRecDepth 100000 in
set_option maxHeartbeats 4000000 in
theorem iLatticeFour_calls (p q : Int) (f g : Bool) (w : World) (hT : TabB w) :
    Calls Tryd.prog 31 #[.int .i64 p, .int .i64 q, .bool f, .bool g] w (GotV w (lvFour p q f g).1 (lvFour p q f g).2) := by
  have hT0 := hT.lt
  have b0 : Below w.heap.size w (w.alloc (.cells #[.int .i64 p, .int .i64 q] 3)) := (Below.refl _ _).alloc (Nat.le_refl _) _
  have HB0 := Lib.hid b0
  have o0 := own_twoV w p q
  by_cases h : (0 ≤ p ∧ p ≤ 23) ∧ (0 ≤ q ∧ q ≤ 23) ∧ p ≠ q
  · obtain ⟨a, rfl⟩ := Int.eq_ofNat_of_zero_le h.1.1
    obtain ⟨b, rfl⟩ := Int.eq_ofNat_of_zero_le h.2.1.1
    have hab : a ≠ b := fun e => h.2.2 (by rw [e])
    obtain ⟨T, hw, hT24, hTb⟩ := wof_pair a b (by omega) (by omega) hab
    rw [show lvFour (a : Int) (b : Int) f g = (vL (fourV a b f g), true) by simp [lvFour, hab]; omega]
    have HPF := Lib.hid (vFrom_yes _ 2 [(a : Int), (b : Int)] 2 2 (T : Int) _ o0.rds o0.len_le (by simp) (by simp) hw (by omega) (by omega))
    have HV := Lib.hid (fun W h => wvector_calls T 4 hT24 W h)
    rw [pair_four T a b (by omega) (by omega) hTb] at HV
    have HF1 := Lib.hid (four_flip1 a b false (by omega) hab)
    have HF2 := Lib.hid (fun f => four_flip2 a b f (by omega))
    have HLI := Lib.hid (fun W => vecList_calls (vL (fourV a b f g)) W (vL_len _))
    have HLN := Lib.hid (fun f g => vL_len (fourV a b f g))
    have h1 : (a : Int) < 24 := by omega
    have h2 : (b : Int) < 24 := by omega
    have h10 : (0 : Int) ≤ (a : Int) := by omega
    have h20 : (0 : Int) ≤ (b : Int) := by omega
    obtain ⟨F, hF⟩ : ∃ F : Bool → Bool → List Int, (fun f g => vL (fourV a b f g)) = F := ⟨_, rfl⟩
    have hFe : ∀ f g, vL (fourV a b f g) = F f g := fun f g => by rw [← hF]
    simp only [hFe] at HV HF1 HF2 HLI HLN ⊢
    have HI := Lib.hid (fun f g => vcInfoL (F f g) (HLN.out f g))
    have HSZ := Lib.hid (fun f g => show (VL z24).size = (VL (F f g)).size by rw [VL_size, VL_size, HLN.out]; rfl)
    have HALL := Lib.hid (fun f g => VL_all (F f g))
    clear hF hFe hTb hw hT24 h b0 o0
    have hwn : wrap64 (-4) = -4 := wrap64_of _ (by omega) (by omega)
    rcases f with _ | _ <;> rcases g with _ | _
    · go_enter Tryd.func31, Tryd.ntmps31
      go_wp2_with fail
      refine HPF.out.mono ?_
      rintro e w' ⟨rfl, rfl⟩
      go_wp2_with fail
      refine (HV.out _ (hT.below HB0.out hT0)).mono ?_
      rintro e w2 ⟨rfl, b2⟩
      have B2 := Lib.hid (HB0.out.trans (b2.mono HB0.out.size))
      have N0 := Lib.hid (heap_alloc_new w2 (.cells (VL z24) 48))
      have N1 := Lib.hid (setRow_heap _ _ _ (VL (F false false)) _ _ N0.out)
      have B3 := Lib.hid (bel_row (T := VL (F false false)) (B2.out.alloc B2.out.size (.cells (VL z24) 48)) B2.out.size)
      clear b2
      go_wp2_with (first
        | (refine wpList_store_row rfl 48 _ _ rfl w2.heap.size (VL (F false false)) rfl rfl 48 (VL z24) N0.out (HI.out _ _) (HSZ.out _ _) (HALL.out _ _) ?_)
        | (refine wpList_load_row rfl 48 _ rfl w2.heap.size rfl 48 (VL (F false false)) (0, 0) _ N1.out Tryd.underlying48 rfl (HI.out _ _) ?_))
      refine (HLI.out _).mono ?_
      rintro e w5 ⟨v, rfl, o5, b5⟩
      go_wp2_with fail
      go_ret2
      exact ⟨_, rfl, o5.weak B3.out.size, B3.out.trans (b5.mono B3.out.size)⟩
    · go_enter Tryd.func31, Tryd.ntmps31
      go_wp2_with fail
      refine HPF.out.mono ?_
      rintro e w' ⟨rfl, rfl⟩
      go_wp2_with fail
      refine (HV.out _ (hT.below HB0.out hT0)).mono ?_
      rintro e w2 ⟨rfl, b2⟩
      have B2 := Lib.hid (HB0.out.trans (b2.mono HB0.out.size))
      have N0 := Lib.hid (heap_alloc_new w2 (.cells (VL z24) 48))
      have N1 := Lib.hid (setRow_heap _ _ _ (VL (F false false)) _ _ N0.out)
      have B3 := Lib.hid (bel_row (T := VL (F false false)) (B2.out.alloc B2.out.size (.cells (VL z24) 48)) B2.out.size)
      clear b2
      have hc2 : (((w2.alloc (.cells #[.int .i64 0, .int .i64 0, .int .i64 0, .int .i64 0, .int .i64 0, .int .i64 0, .int .i64 0, .int .i64 0, .int .i64 0, .int .i64 0, .int .i64 0, .int .i64 0, .int .i64 0, .int .i64 0, .int .i64 0, .int .i64 0, .int .i64 0, .int .i64 0, .int .i64 0, .int .i64 0, .int .i64 0, .int .i64 0, .int .i64 0, .int .i64 0] 48)).setRow w2.heap.size (VL (F false false)))).cell? ⟨w2.heap.size, b, none⟩ = _ := VL_at (j := b) (F false false) (by rw [HLN.out]; omega) N1.out
      rw [(HF2.out false).1] at hc2
      have hf2 : (((w2.alloc (.cells #[.int .i64 0, .int .i64 0, .int .i64 0, .int .i64 0, .int .i64 0, .int .i64 0, .int .i64 0, .int .i64 0, .int .i64 0, .int .i64 0, .int .i64 0, .int .i64 0, .int .i64 0, .int .i64 0, .int .i64 0, .int .i64 0, .int .i64 0, .int .i64 0, .int .i64 0, .int .i64 0, .int .i64 0, .int .i64 0, .int .i64 0, .int .i64 0] 48)).setRow w2.heap.size (VL (F false false)))).frozen? ⟨w2.heap.size, b, none⟩ = false := Lib.frozen_of_heap N1.out b
      have N3' := VL_set (j := b) (F false false) (-4) N1.out
      rw [(HF2.out false).2] at N3'
      have N3 := Lib.hid N3'
      have B5 := Lib.hid (B3.out.setCell (p := ⟨w2.heap.size, b, none⟩) B2.out.size (.int .i64 (-4)))
      clear N3'
      go_wp2_with (first
        | (refine wpList_store_row rfl 48 _ _ rfl w2.heap.size (VL (F false false)) rfl rfl 48 (VL z24) N0.out (HI.out _ _) (HSZ.out _ _) (HALL.out _ _) ?_)
        | (refine wpList_load_row rfl 48 _ rfl w2.heap.size rfl 48 (VL (F false true)) (0, 0) _ N3.out Tryd.underlying48 rfl (HI.out _ _) ?_))
      refine (HLI.out _).mono ?_
      rintro e w5 ⟨v, rfl, o5, b5⟩
      go_wp2_with fail
      go_ret2
      exact ⟨_, rfl, o5.weak B5.out.size, B5.out.trans (b5.mono B5.out.size)⟩
    · go_enter Tryd.func31, Tryd.ntmps31
      go_wp2_with fail
      refine HPF.out.mono ?_
      rintro e w' ⟨rfl, rfl⟩
      go_wp2_with fail
      refine (HV.out _ (hT.below HB0.out hT0)).mono ?_
      rintro e w2 ⟨rfl, b2⟩
      have B2 := Lib.hid (HB0.out.trans (b2.mono HB0.out.size))
      have N0 := Lib.hid (heap_alloc_new w2 (.cells (VL z24) 48))
      have N1 := Lib.hid (setRow_heap _ _ _ (VL (F false false)) _ _ N0.out)
      have B3 := Lib.hid (bel_row (T := VL (F false false)) (B2.out.alloc B2.out.size (.cells (VL z24) 48)) B2.out.size)
      clear b2
      have hc1 : ((w2.alloc (.cells #[.int .i64 0, .int .i64 0, .int .i64 0, .int .i64 0, .int .i64 0, .int .i64 0, .int .i64 0, .int .i64 0, .int .i64 0, .int .i64 0, .int .i64 0, .int .i64 0, .int .i64 0, .int .i64 0, .int .i64 0, .int .i64 0, .int .i64 0, .int .i64 0, .int .i64 0, .int .i64 0, .int .i64 0, .int .i64 0, .int .i64 0, .int .i64 0] 48)).setRow w2.heap.size (VL (F false false))).cell? ⟨w2.heap.size, a, none⟩ = _ := VL_at (j := a) (F false false) (by rw [HLN.out]; omega) N1.out
      rw [HF1.out.1] at hc1
      have hf1 : ((w2.alloc (.cells #[.int .i64 0, .int .i64 0, .int .i64 0, .int .i64 0, .int .i64 0, .int .i64 0, .int .i64 0, .int .i64 0, .int .i64 0, .int .i64 0, .int .i64 0, .int .i64 0, .int .i64 0, .int .i64 0, .int .i64 0, .int .i64 0, .int .i64 0, .int .i64 0, .int .i64 0, .int .i64 0, .int .i64 0, .int .i64 0, .int .i64 0, .int .i64 0] 48)).setRow w2.heap.size (VL (F false false))).frozen? ⟨w2.heap.size, a, none⟩ = false := Lib.frozen_of_heap N1.out a
      have N2' := VL_set (j := a) (F false false) (-4) N1.out
      rw [HF1.out.2] at N2'
      have N2 := Lib.hid N2'
      have B4 := Lib.hid (B3.out.setCell (p := ⟨w2.heap.size, a, none⟩) B2.out.size (.int .i64 (-4)))
      clear N2'
      go_wp2_with (first
        | (refine wpList_store_row rfl 48 _ _ rfl w2.heap.size (VL (F false false)) rfl rfl 48 (VL z24) N0.out (HI.out _ _) (HSZ.out _ _) (HALL.out _ _) ?_)
        | (refine wpList_load_row rfl 48 _ rfl w2.heap.size rfl 48 (VL (F true false)) (0, 0) _ N2.out Tryd.underlying48 rfl (HI.out _ _) ?_))
      refine (HLI.out _).mono ?_
      rintro e w5 ⟨v, rfl, o5, b5⟩
      go_wp2_with fail
      go_ret2
      exact ⟨_, rfl, o5.weak B4.out.size, B4.out.trans (b5.mono B4.out.size)⟩
    · go_enter Tryd.func31, Tryd.ntmps31
      go_wp2_with fail
      refine HPF.out.mono ?_
      rintro e w' ⟨rfl, rfl⟩
      go_wp2_with fail
      refine (HV.out _ (hT.below HB0.out hT0)).mono ?_
      rintro e w2 ⟨rfl, b2⟩
      have B2 := Lib.hid (HB0.out.trans (b2.mono HB0.out.size))
      have N0 := Lib.hid (heap_alloc_new w2 (.cells (VL z24) 48))
      have N1 := Lib.hid (setRow_heap _ _ _ (VL (F false false)) _ _ N0.out)
      have B3 := Lib.hid (bel_row (T := VL (F false false)) (B2.out.alloc B2.out.size (.cells (VL z24) 48)) B2.out.size)
      clear b2
      have hc1 : ((w2.alloc (.cells #[.int .i64 0, .int .i64 0, .int .i64 0, .int .i64 0, .int .i64 0, .int .i64 0, .int .i64 0, .int .i64 0, .int .i64 0, .int .i64 0, .int .i64 0, .int .i64 0, .int .i64 0, .int .i64 0, .int .i64 0, .int .i64 0, .int .i64 0, .int .i64 0, .int .i64 0, .int .i64 0, .int .i64 0, .int .i64 0, .int .i64 0, .int .i64 0] 48)).setRow w2.heap.size (VL (F false false))).cell? ⟨w2.heap.size, a, none⟩ = _ := VL_at (j := a) (F false false) (by rw [HLN.out]; omega) N1.out
      rw [HF1.out.1] at hc1
      have hf1 : ((w2.alloc (.cells #[.int .i64 0, .int .i64 0, .int .i64 0, .int .i64 0, .int .i64 0, .int .i64 0, .int .i64 0, .int .i64 0, .int .i64 0, .int .i64 0, .int .i64 0, .int .i64 0, .int .i64 0, .int .i64 0, .int .i64 0, .int .i64 0, .int .i64 0, .int .i64 0, .int .i64 0, .int .i64 0, .int .i64 0, .int .i64 0, .int .i64 0, .int .i64 0] 48)).setRow w2.heap.size (VL (F false false))).frozen? ⟨w2.heap.size, a, none⟩ = false := Lib.frozen_of_heap N1.out a
      have N2' := VL_set (j := a) (F false false) (-4) N1.out
      rw [HF1.out.2] at N2'
      have N2 := Lib.hid N2'
      have B4 := Lib.hid (B3.out.setCell (p := ⟨w2.heap.size, a, none⟩) B2.out.size (.int .i64 (-4)))
      clear N2'
      have hc2 : (((w2.alloc (.cells #[.int .i64 0, .int .i64 0, .int .i64 0, .int .i64 0, .int .i64 0, .int .i64 0, .int .i64 0, .int .i64 0, .int .i64 0, .int .i64 0, .int .i64 0, .int .i64 0, .int .i64 0, .int .i64 0, .int .i64 0, .int .i64 0, .int .i64 0, .int .i64 0, .int .i64 0, .int .i64 0, .int .i64 0, .int .i64 0, .int .i64 0, .int .i64 0] 48)).setRow w2.heap.size (VL (F false false))).setCell ⟨w2.heap.size, a, none⟩ (.int .i64 (-4))).cell? ⟨w2.heap.size, b, none⟩ = _ := VL_at (j := b) (F true false) (by rw [HLN.out]; omega) N2.out
      rw [(HF2.out true).1] at hc2
      have hf2 : (((w2.alloc (.cells #[.int .i64 0, .int .i64 0, .int .i64 0, .int .i64 0, .int .i64 0, .int .i64 0, .int .i64 0, .int .i64 0, .int .i64 0, .int .i64 0, .int .i64 0, .int .i64 0, .int .i64 0, .int .i64 0, .int .i64 0, .int .i64 0, .int .i64 0, .int .i64 0, .int .i64 0, .int .i64 0, .int .i64 0, .int .i64 0, .int .i64 0, .int .i64 0] 48)).setRow w2.heap.size (VL (F false false))).setCell ⟨w2.heap.size, a, none⟩ (.int .i64 (-4))).frozen? ⟨w2.heap.size, b, none⟩ = false := Lib.frozen_of_heap N2.out b
      have N3' := VL_set (j := b) (F true false) (-4) N2.out
      rw [(HF2.out true).2] at N3'
      have N3 := Lib.hid N3'
      have B5 := Lib.hid (B4.out.setCell (p := ⟨w2.heap.size, b, none⟩) B2.out.size (.int .i64 (-4)))
      clear N3'
      go_wp2_with (first
        | (refine wpList_store_row rfl 48 _ _ rfl w2.heap.size (VL (F false false)) rfl rfl 48 (VL z24) N0.out (HI.out _ _) (HSZ.out _ _) (HALL.out _ _) ?_)
        | (refine wpList_load_row rfl 48 _ rfl w2.heap.size rfl 48 (VL (F true true)) (0, 0) _ N3.out Tryd.underlying48 rfl (HI.out _ _) ?_))
      refine (HLI.out _).mono ?_
      rintro e w5 ⟨v, rfl, o5, b5⟩
      go_wp2_with fail
      go_ret2
      exact ⟨_, rfl, o5.weak B5.out.size, B5.out.trans (b5.mono B5.out.size)⟩
  · rw [show lvFour p q f g = ([], false) by simp only [lvFour]; rw [if_neg]; simp; omega]
    have HPF := Lib.hid (vFrom_no _ 2 [p, q] 2 2 _ o0.rds o0.len_le (by simp) (by simp) (wof_pair_no p q h))
    clear h b0 o0
    go_enter Tryd.func31, Tryd.ntmps31
    go_wp2_with fail
    refine HPF.out.mono ?_
    rintro e w' ⟨rfl, rfl⟩
    go_wp2_with fail
    go_ret2
    exact ⟨_, rfl, OwnV.nil_ _ _, HB0.out⟩
end Go.Proofs.YtmeejnkpaiinaabDoor
