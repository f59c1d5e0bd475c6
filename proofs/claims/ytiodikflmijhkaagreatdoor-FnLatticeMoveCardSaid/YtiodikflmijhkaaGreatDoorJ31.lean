/- Joined texts: C168 C169 C170. -/
import Derived.Test.YtiodikflmijhkaaGreatDoorJ30
import Derived.Test.YtiodikflmijhkaaGreatDoorJ27
import Derived.Test.YtiodikflmijhkaaGreatDoorJ29
import Derived.Test.YtiodikflmijhkaaGreatDoorJ28
import Derived.Deep.RegionHeld3
section
namespace Go.Proofs.YtiodikflmijhkaaGreatDoor
open Go.RowKit
set_option linter.unusedVariables false
set_option linter.unusedSimpArgs false
attribute [local irreducible] cN syn

theorem mk24L (W : World) : (Instr.makeSlice 23 (.int .i64 24) (.int .i64 24)).run Tryz.prog W = .ok (.slice (some ⟨W.heap.size, 0, none⟩) 24 24) (W.alloc (.cells (VL z24) 3)) := by kernel_rfl
theorem own_24L {w : World} {B g : Nat} (xs : List Int) (hl : xs.length = 24) (hg : w.heap[g]? = some (.cells (VL xs) 3 (0, 0))) (hB : B ≤ g) : Own w B (.slice (some ⟨g, 0, none⟩) 24 24) xs :=
  ⟨by simp [vals_len, hl], .inr ⟨g, 24, _, by rw [hl], hB, hg, by simp [hl], by unfold maxLen; omega, by simp [VL, hl], by
    have : (vals .i64 xs).length ≤ xs.length * 1 := by rw [vals_len]; omega
    simp only [VL, vals, Nat.mul_one]
    rw [List.take_of_length_le (by simp)]⟩⟩
theorem z24_vL : z24 = vL fun _ => 0 := rfl
theorem four_set (a b : Nat) (f g : Bool) (ha : a < 24) (hb : b < 24) : (z24.set a (fourS f)).set b (fourS g) = vL (fourV a b f g) := by
  rw [z24_vL, vL_set _ a _ ha, vL_set _ b _ hb]
  rfl
theorem l9Four_calls (b : Bool) (w : World) : Calls Tryz.prog 63 #[.bool b] w fun e w' => e = .returned (.int .i64 (fourS b)) ∧ w = w' := by
  cases b
  · go_enter Tryz.func63, Tryz.ntmps63
    go_wp2
    go_ret
    exact ⟨rfl, rfl⟩
  · go_enter Tryz.func63, Tryz.ntmps63
    go_wp2
    go_ret
    exact ⟨rfl, rfl⟩
set_option maxHeartbeats 1000000 in
theorem sLatticeFour_calls (p q : Int) (f g : Bool) (w : World) :
    Calls Tryz.prog 31 #[.int .i64 p, .int .i64 q, .bool f, .bool g] w (GotL w (lvFour p q f g).1 (lvFour p q f g).2) := by
  have HE := Lib.hid (own_empty2 w w.heap.size (Nat.le_refl _))
  by_cases hp : 0 ≤ p ∧ p ≤ 23
  · by_cases hq : 0 ≤ q ∧ q ≤ 23
    · by_cases hpq : p = q
      · rw [show lvFour p q f g = ([], false) by simp [lvFour, hpq]]
        subst hpq
        go_enter Tryz.func31, Tryz.ntmps31
        go_wp2_with (go_at_call 44; refine (l6In_ok _ _ _ _ (by omega) (by omega)).mono ?_; rintro e w' ⟨rfl, rfl⟩)
        go_ret2
        exact ⟨_, rfl, HE.out, (Below.refl _ _).alloc (Nat.le_refl _) _⟩
      · rw [show lvFour p q f g = (vL (fourV p.toNat q.toNat f g), true) by simp [lvFour, hp, hq, hpq]]
        obtain ⟨a, rfl⟩ := Int.eq_ofNat_of_zero_le hp.1
        obtain ⟨b, rfl⟩ := Int.eq_ofNat_of_zero_le hq.1
        rw [Int.toNat_natCast, Int.toNat_natCast]
        have h1 : (a : Int) < 24 := by omega
        have h2 : (b : Int) < 24 := by omega
        have h0 : (0 : Int) ≤ (a : Int) := by omega
        have h00 : (0 : Int) ≤ (b : Int) := by omega
        have hne : ((a : Int) == (b : Int)) = false := by simpa using hpq
        have HM := mk24L
        have HF := Lib.hid (four_set a b f g (by omega) (by omega))
        have N0 := heap_alloc_new w (.cells (VL z24) 3)
        have c0 := VL_at (j := a) z24 (show a < 24 by omega) N0
        have f0 : (w.alloc (.cells (VL z24) 3)).frozen? ⟨w.heap.size, a, none⟩ = false := Lib.frozen_of_heap N0 _
        have c1 : (w.alloc (.cells ((VL z24).setIfInBounds a (.int .i64 (fourS f))) 3)).cell? ⟨w.heap.size, b, none⟩ = some (.int .i64 ((z24.set a (fourS f)).getD b 0)) := by
          rw [VL_put]
          exact VL_at (j := b) (z24.set a (fourS f)) (by rw [List.length_set]; show b < 24; omega) (heap_alloc_new w _)
        have f1 : (w.alloc (.cells ((VL z24).setIfInBounds a (.int .i64 (fourS f))) 3)).frozen? ⟨w.heap.size, b, none⟩ = false := Lib.frozen_of_heap (heap_alloc_new w _) _
        have HO := Lib.hid (own_24L (B := w.heap.size) _ (vL_len (fourV a b f g)) (heap_alloc_new w (.cells (VL (vL (fourV a b f g))) 3)) (Nat.le_refl _))
        have HB := Lib.hid ((Below.refl w.heap.size w).alloc (Nat.le_refl _) (.cells (VL (vL (fourV a b f g))) 3))
        have HV3 := Lib.hid (show ((VL z24).setIfInBounds a (.int .i64 (fourS f))).setIfInBounds b (.int .i64 (fourS g)) = VL (vL (fourV a b f g)) by rw [VL_put, VL_put, HF.out])
        generalize z24.getD a 0 = z at *
        generalize (z24.set a (fourS f)).getD b 0 = z2 at *
        clear N0 hpq hp hq HE HF
        go_enter Tryz.func31, Tryz.ntmps31
        go_wp2_with (first
          | (go_at_call 44; refine (l6In_ok _ _ _ _ (by omega) (by omega)).mono ?_; rintro e w' ⟨rfl, rfl⟩)
          | (go_at_call 63; refine (l9Four_calls _ _).mono ?_; rintro e w' ⟨rfl, rfl⟩))
        go_ret2
        rw [HV3.out]
        exact ⟨_, rfl, HO.out, HB.out⟩
    · rw [show lvFour p q f g = ([], false) by simp [lvFour]; omega]
      have hq' : q < 0 ∨ 23 < q := by omega
      obtain ⟨hp0, hp1⟩ := hp
      clear hq
      go_enter Tryz.func31, Tryz.ntmps31
      go_wp2_with fail
      refine (l6In_ok _ _ _ _ hp0 hp1).mono ?_
      rintro e w' ⟨rfl, rfl⟩
      go_wp2_with fail
      refine (l6In_no _ _ _ _ hq').mono ?_
      rintro e w' ⟨rfl, rfl⟩
      go_wp2_with fail
      go_ret2
      exact ⟨_, rfl, HE.out, (Below.refl _ _).alloc (Nat.le_refl _) _⟩
  · rw [show lvFour p q f g = ([], false) by simp [lvFour]; omega]
    have hp' : p < 0 ∨ 23 < p := by omega
    clear hp
    go_enter Tryz.func31, Tryz.ntmps31
    go_wp2_with fail
    refine (l6In_no _ _ _ _ hp').mono ?_
    rintro e w' ⟨rfl, rfl⟩
    go_wp2_with fail
    go_ret2
    exact ⟨_, rfl, HE.out, (Below.refl _ _).alloc (Nat.le_refl _) _⟩
def octTo (w s k p : Nat) : Int := if w.testBit p && decide (popN p w < k) then octV w s p else 0
theorem octTo_zero (w s : Nat) : vL (octTo w s 0) = z24 := by
  rw [z24_vL]
  exact vL_ext _ _ fun p hp => by simp [octTo]
theorem octTo_all (w s : Nat) (h8 : pop w = 8) : vL (octTo w s 8) = vL (octV w s) := vL_ext _ _ fun p hp => by
  unfold octTo
  cases h : w.testBit p
  · simp [octV, h]
  · have := pop_lt hp h
    simp [show popN p w < 8 by omega]
theorem popN_inj {w p q : Nat} (hp : w.testBit p = true) (hq : w.testBit q = true) (h : popN p w = popN q w) : p = q := by
  rcases Nat.lt_trichotomy p q with hl | hl | hl
  · have h1 := popN_mono w (p + 1) q (by omega)
    rw [popN_top] at h1
    have : bN w p = 1 := by simp [bN, hp]
    omega
  · exact hl
  · have h1 := popN_mono w (q + 1) p (by omega)
    rw [popN_top] at h1
    have : bN w q = 1 := by simp [bN, hq]
    omega
theorem octTo_set (w s k q : Nat) (hq : q < 24) (hb : w.testBit q = true) (hk : popN q w = k) : (vL (octTo w s k)).set q (2 - 4 * bitI (sgnN s : Int) k) = vL (octTo w s (k + 1)) := by
  rw [vL_set _ q _ hq]
  refine vL_ext _ _ fun p hp => ?_
  by_cases h : p = q
  · subst h
    rw [if_pos rfl]
    unfold octTo octV
    rw [bitI_nat, hk]
    cases (sgnN s).testBit k <;> simp [hb]
  · rw [if_neg h]
    unfold octTo
    cases hb2 : w.testBit p
    · simp
    · have : popN p w ≠ k := fun e => h (popN_inj hb2 hb (by rw [e, hk]))
      by_cases h2 : popN p w < k
      · simp [h2, show popN p w < k + 1 by omega]
      · simp [h2, show ¬ popN p w < k + 1 by omega]
theorem sgn_lt : ∀ s : Fin 128, sgnN s.val < 256 ∧ pop s.val % 2 < 2 := by decide +kernel
set_option maxRecDepth 100000 in
set_option maxHeartbeats 2000000 in
theorem sLatticeOctad_calls (n s : Int) (w : World) :
    Calls Tryz.prog 27 #[.int .i64 n, .int .i64 s] w (GotL w (lvOct n s).1 (lvOct n s).2) := by
  have HC := Lib.hid (sOctadIn_calls n w)
  rcases hc : oIn n with _ | _
  · rw [show lvOct n s = ([], false) by unfold lvOct; rw [show (cIn n && decide (wt n = 8)) = false from hc]; rfl]
    rw [hc] at HC
    clear hc
    go_enter Tryz.func27, Tryz.ntmps27
    go_wp2_with fail
    refine HC.out.mono ?_
    rintro e w1 ⟨rfl, b1⟩
    have HE := Lib.hid (own_empty2 w1 w.heap.size b1.size)
    go_wp2_with fail
    go_ret2
    exact ⟨_, rfl, HE.out, b1.alloc b1.size _⟩
  by_cases hs : 0 ≤ s ∧ s ≤ 127
  · obtain ⟨hs0, hs1⟩ := hs
    have hw := oIn_w hc
    rw [show lvOct n s = (vL (octV n.toNat s.toNat), true) by unfold lvOct; rw [show (cIn n && decide (wt n = 8)) = true from hc, decide_eq_true (show 0 ≤ s ∧ s ≤ 127 from ⟨hs0, hs1⟩)]; rfl]
    rw [hc] at HC
    obtain ⟨W, rfl⟩ := Int.eq_ofNat_of_zero_le hw.1.1
    obtain ⟨S, rfl⟩ := Int.eq_ofNat_of_zero_le hs0
    rw [Int.toNat_natCast, Int.toNat_natCast]
    have h8 : pop W = 8 := by have := hw.2.2; rw [wt_pop] at this; omega
    obtain ⟨sg1, sg2⟩ := sgn_lt ⟨S, by omega⟩
    simp only at sg1 sg2
    have hpm : (wt (S : Int)).tmod 2 = ((pop S % 2 : Nat) : Int) := by rw [wt_pop, Int.tmod_eq_emod_of_nonneg (by omega)]; omega
    have hsg : ((S : Int) + ((pop S % 2 : Nat) : Int) * 128) = (sgnN S : Int) := by unfold sgnN; push_cast; rfl
    have HPL := Lib.hid (fun k (hk : k < 8) => show ∃ q : Nat, (plI W).getD k 0 = (q : Int) ∧ q < 24 ∧ W.testBit q = true ∧ popN q W = k by
      have hl : k < (plN W 24).length := by rw [plN_len_pop]; have : popN 24 W = 8 := h8; omega
      have := plN_at W 24 k hl
      refine ⟨(plN W 24).getD k 0, ?_, this⟩
      show ((plN W 24).map fun (i : Nat) => (i : Int)).getD k 0 = _
      simp [hl])
    have HPLL := Lib.hid (show (plI W).length = 8 by
      show ((plN W 24).map _).length = 8
      rw [List.length_map, plN_len_pop]; exact h8)
    have HST := Lib.hid (fun k q h1 h2 h3 => octTo_set W S k q h1 h2 h3)
    have HO0 := Lib.hid (octTo_zero W S)
    have HO8 := Lib.hid (octTo_all W S h8)
    have HVL := Lib.hid (fun k => vL_len (octTo W S k))
    have HOL := Lib.hid (vL_len (octV W S))
    obtain ⟨M, hM⟩ : ∃ M : Nat → List Int, (fun k => vL (octTo W S k)) = M := ⟨_, rfl⟩
    have hMk : ∀ k, vL (octTo W S k) = M k := fun k => by rw [← hM]
    simp only [hMk] at HST HO0 HO8 HVL
    generalize vL (octV W S) = zs at *
    have HM := mk24L
    generalize hG : sgnN S = G at *
    have hw1 : wrap64 ((pop S % 2 : Nat) : Int) = ((pop S % 2 : Nat) : Int) := wrap64_of _ (by omega) (by omega)
    generalize pop S % 2 = m at *
    have hw2 : wrap64 ((m : Int) * 128) = (m : Int) * 128 := wrap64_of _ (by omega) (by omega)
    have hw3 : wrap64 ((S : Int) + (m : Int) * 128) = (G : Int) := by rw [hsg]; exact wrap64_of _ (by omega) (by omega)
    have HW1 := Lib.hid hw1
    have HW2 := Lib.hid hw2
    have HW3 := Lib.hid hw3
    have HPM := Lib.hid hpm
    clear hM hMk h8 hc hw hG hsg sg2 hw1 hw2 hw3 hpm
    go_enter Tryz.func27, Tryz.ntmps27
    go_wp2_with fail
    refine HC.out.mono ?_
    rintro e w1 ⟨rfl, b1⟩
    have N0 := Lib.hid (heap_alloc_new w1 (.cells (VL z24) 3))
    have B0 := Lib.hid (b1.alloc b1.size (.cells (VL z24) 3))
    have hs1 := b1.size
    clear b1
    go_wp2_with (go_at_call 44; refine (l6In_ok _ _ _ _ (by omega) (by omega)).mono ?_; rintro e w' ⟨rfl, rfl⟩)
    refine (l1Places_calls W _).mono ?_
    rintro e w2 ⟨v, rfl, o2, b2⟩
    obtain ⟨A7, c7, rfl⟩ := o2.slice
    rw [HPLL.out]
    rw [HPLL.out] at o2
    obtain ⟨g7, rfl, hg7, hg7'⟩ := own_at o2 (by omega)
    rw [World.size_alloc] at hg7 o2
    have hlt0 : w1.heap.size < (w1.alloc (.cells (VL z24) 3)).heap.size := by simp
    have N2 := Lib.hid ((b2.block w1.heap.size hlt0).trans N0.out)
    have B2 := Lib.hid (B0.out.trans (b2.mono B0.out.size))
    have O2 := Lib.hid o2
    clear o2 b2 N0 B0
    go_wp2_with (go_at_call 57; refine (l1Weight_calls _ _).mono ?_; rintro e w' ⟨rfl, rfl⟩)
    simp only [HPM.out, HW1.out, HW2.out, HW3.out]
    go_loopw [9] (fun i wr => ∃ k : Nat, k ≤ 8 ∧ i = .int .i64 k ∧ Hid (wr.heap[w1.heap.size]? = some (.cells (VL (M k)) 3 (0, 0))) ∧ Hid (Own wr (w1.heap.size + 1) (.slice (some ⟨g7, 0, none⟩) 8 c7) (plI W)) ∧ Hid (Below w.heap.size w wr)) (fun i _ => 8 - (intOf i).toNat)
    case atStart => exact ⟨0, by omega, rfl, Lib.hid (by rw [HO0.out]; exact N2.out), O2, B2⟩
    case round =>
      obtain ⟨k, hk, rfl, h1, ho, hb⟩ := hrel
      clear N2 O2 B2
      by_cases hlt : k < 8
      · obtain ⟨q, hq1, hq2, hq3, hq4⟩ := HPL.out k hlt
        have c7 := ho.out.cell (j := k) (by rw [HPLL.out]; exact hlt)
        rw [hq1] at c7
        have hq5 : (0 : Int) ≤ (q : Int) := by omega
        have hq6 : (q : Int) < 24 := by omega
        have hk1 : (k : Int) < 8 := by omega
        have hcx := VL_at (j := q) _ (by rw [HVL.out]; exact hq2) h1.out
        have hfx : wr.frozen? ⟨w1.heap.size, q, none⟩ = false := Lib.frozen_of_heap h1.out _
        have HF := Lib.hid (fun X => row_set (X := X) h1.out hs1 hb.out (HST.out k q hq2 hq3 hq4))
        have HOF := Lib.hid (fun u => ho.out.set_far (p := ⟨w1.heap.size, q, none⟩) (by simp [Value.ownBlock]; omega) u)
        have hb01 := bitI_01 (G : Int) (k : Int)
        generalize (M k).getD q 0 = z at *
        have HBI := Lib.hid (fun W => l1Bit_calls (G : Int) (k : Int) W (by omega) (by omega))
        generalize bitI (G : Int) (k : Int) = t at *
        have hx1 : IntKind.i64.wrap (4 * t) = 4 * t := wrap_i64_of _ (by omega) (by omega)
        have hx2 : IntKind.i64.wrap (2 - 4 * t) = 2 - 4 * t := wrap_i64_of _ (by omega) (by omega)
        clear hq1 hq3 hq4 hb01
        go_wp2_with fail
        go_region_with (go_at_call 45; refine (HBI.out _).mono ?_; rintro e w' ⟨rfl, rfl⟩)
        all_goals
          go_wp2_with fail
          go_roundw
          case rel =>
            refine ⟨k + 1, by omega, by go_num, Lib.hid ?_, Lib.hid ?_, Lib.hid ?_⟩
            · exact (HF.out _ rfl ⟨rfl, rfl, rfl⟩).1
            · exact HOF.out _
            · exact (HF.out _ rfl ⟨rfl, rfl, rfl⟩).2.2.drew
          case measure => simp [intOf]; omega
      · obtain rfl : k = 8 := by omega
        have h1' := h1.out
        rw [HO8.out] at h1'
        have HO := Lib.hid (own_24L (B := w.heap.size) zs HOL.out h1' hs1)
        clear h1' h1
        go_wp2_with fail
        go_ret2
        exact ⟨_, rfl, HO.out, hb.out⟩
  · rw [show lvOct n s = ([], false) by unfold lvOct; rw [show (cIn n && decide (wt n = 8)) = true from hc, decide_eq_false hs]; rfl]
    rw [hc] at HC
    have hs' : s < 0 ∨ 127 < s := by omega
    clear hc hs
    go_enter Tryz.func27, Tryz.ntmps27
    go_wp2_with fail
    refine HC.out.mono ?_
    rintro e w1 ⟨rfl, b1⟩
    have HE := Lib.hid (own_empty2 w1 w.heap.size b1.size)
    go_wp2_with (go_at_call 44; refine (l6In_no _ _ _ _ hs').mono ?_; rintro e w' ⟨rfl, rfl⟩)
    go_ret2
    exact ⟨_, rfl, HE.out, b1.alloc b1.size _⟩
end Go.Proofs.YtiodikflmijhkaaGreatDoor
end

section
namespace Go.Proofs.YtiodikflmijhkaaGreatDoor
open Go.RowKit
set_option linter.unusedVariables false
set_option linter.unusedSimpArgs false
attribute [local irreducible] cN syn octS octF

/-- What is held while a vector is drawn: the list, the reader. -/
def VSt (w : World) (g q : Nat) (out : List Int) (W : World) : Prop :=
  out.length = 24 ∧ Own W w.heap.size (.slice (some ⟨w.heap.size, 0, none⟩) 24 24) out ∧ (∃ q', q' ≤ q ∧ Rd W g q') ∧ w.grownBy W (some g)
theorem VSt.grown {w W W2 : World} {g q q2 qn : Nat} {out : List Int} (h : VSt w g q out W) (hg : g < w.heap.size) (hr : Rd W2 g q2) (hq : q2 ≤ qn) (hG : W.grownBy W2 (some g)) : VSt w g qn out W2 :=
  ⟨h.1, h.2.1.grownG hG hg, ⟨q2, hq, hr⟩, grown_trans h.2.2.2 hG⟩
theorem VSt.below {w W W2 : World} {g q : Nat} {out : List Int} (h : VSt w g q out W) (hb : Below W.heap.size W W2) : VSt w g q out W2 := by
  obtain ⟨h1, h2, ⟨q', hq, hr⟩, h4⟩ := h
  exact ⟨h1, h2.below hb, ⟨q', hq, hr.below hb⟩, grown_trans h4 (below_grown hb (some g))⟩
theorem VSt.set {w W : World} {g q : Nat} {out : List Int} (h : VSt w g q out W) (hg : g < w.heap.size) (k : Nat) (x : Int) : VSt w g q (out.set k x) (W.setCell ⟨w.heap.size, k, none⟩ (.int .i64 x)) := by
  obtain ⟨h1, h2, ⟨q', hq, hr⟩, h4⟩ := h
  have hb : Below w.heap.size W (W.setCell ⟨w.heap.size, k, none⟩ (.int .i64 x)) := (Below.refl _ W).setCell (p := ⟨w.heap.size, k, none⟩) (Nat.le_refl _) _
  exact ⟨by rw [List.length_set]; exact h1, h2.set k x, ⟨q', hq, hr.keep (hb.mono hg)⟩, grown_then_below h4 hb⟩
theorem VSt.drew {w W : World} {g q : Nat} {out : List Int} (h : VSt w g q out W) : VSt w g q out W.drew :=
  h.below ((Below.refl _ W).drew)
theorem VSt.more {w W : World} {g q q2 : Nat} {out : List Int} (h : VSt w g q out W) (hq : q ≤ q2) : VSt w g q2 out W := by
  obtain ⟨h1, h2, ⟨q', hq', hr⟩, h4⟩ := h
  exact ⟨h1, h2, ⟨q', by omega, hr⟩, h4⟩
theorem lvOct_24 {n s : Int} (h : (lvOct n s).2 = true) : (lvOct n s).1.length = 24 := by
  unfold lvOct at *
  split at h <;> simp_all [vL_len]
theorem lvThree_24 {n s : Int} (h : (lvThree n s).2 = true) : (lvThree n s).1.length = 24 := by
  unfold lvThree at *
  split at h <;> simp_all [vL_len]
theorem lvFour_24 {n s : Int} {f g : Bool} (h : (lvFour n s f g).2 = true) : (lvFour n s f g).1.length = 24 := by
  unfold lvFour at *
  split at h <;> simp_all [vL_len]
end Go.Proofs.YtiodikflmijhkaaGreatDoor
end

section
namespace Go.Proofs.YtiodikflmijhkaaGreatDoor
open Go.RowKit
set_option linter.unusedVariables false
attribute [local irreducible] cN syn octS octF

end Go.Proofs.YtiodikflmijhkaaGreatDoor
end
