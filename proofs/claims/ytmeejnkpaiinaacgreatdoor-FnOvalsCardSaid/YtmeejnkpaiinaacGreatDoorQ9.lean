import Derived.Test.YtmeejnkpaiinaacGreatDoorC93
import Derived.Test.YtmeejnkpaiinaacGreatDoorC91
import Derived.Test.YtmeejnkpaiinaacGreatDoorQ4
import Derived.Test.YtmeejnkpaiinaacGreatDoorQ3
import Derived.Test.YtmeejnkpaiinaacGreatDoorC150
import Derived.Test.YtmeejnkpaiinaacGreatDoorC92
import Derived.Test.YtmeejnkpaiinaacGreatDoorC149
import Derived.Test.YtmeejnkpaiinaacGreatDoorC10
import Derived.Test.YtmeejnkpaiinaacGreatDoorC148
/- Planes of the model: lines through two points, through one, arcs; PlaneLine, PlaneOn. -/
namespace Go.Proofs.YtmeejnkpaiinaacGreatDoor
open Go.RowKit
set_option linter.unusedVariables false
attribute [local irreducible] octS cN octF syn

theorem no_hit {P : Int → Bool} {L : List Int} (h : ∀ j, j < L.length → P (L.getD j 0) = false) : L.filter P = [] := by
  rw [List.filter_eq_nil_iff]
  intro a ha
  obtain ⟨j, hj, rfl⟩ := List.getElem_of_mem ha
  have := h j hj
  rw [← getD_at _ j hj] at this
  rw [this]; exact Bool.false_ne_true
theorem first_hit {P : Int → Bool} {L : List Int} {k : Nat} (hk : k < L.length) (h : ∀ j, j < k → P (L.getD j 0) = false) (hp : P (L.getD k 0) = true) : (L.filter P).getD 0 0 = L.getD k 0 := by
  have e : (L.take k).filter P = [] := no_hit fun j hj => by
    have hj' : j < k := by rw [List.length_take] at hj; omega
    have : (L.take k).getD j 0 = L.getD j 0 := by
      rw [List.getD_eq_getElem?_getD, List.getD_eq_getElem?_getD, List.getElem?_take_of_lt hj']
    rw [this]; exact h j hj'
  conv => lhs; rw [← List.take_append_drop k L]
  rw [List.filter_append, e, List.nil_append, List.drop_eq_getElem_cons hk]
  rw [← getD_at _ k hk] at hp
  rw [List.filter_cons_of_pos hp, List.getD_cons_zero, getD_at _ k hk]
theorem ptB_no {b p : Int} (h : p < 0 ∨ 23 < p) : ptB b p = false := by
  unfold ptB
  rw [decide_eq_false (by omega), Bool.false_and]
theorem ptB_in {b p : Int} (h0 : 0 ≤ p) (h1 : p ≤ 23) : ptB b p = (bitI b p == 0) := by
  unfold ptB
  rw [decide_eq_true (⟨h0, h1⟩ : 0 ≤ p ∧ p ≤ 23), Bool.true_and]
  rw [Bool.eq_iff_iff, decide_eq_true_eq, beq_iff_eq]
theorem l6pPoint_calls (b p : Int) (w : World) : Calls Tryz.prog 57 #[.int .i64 b, .int .i64 p] w fun e w' => e = .returned (.bool (ptB b p)) ∧ w = w' := by
  by_cases h : 0 ≤ p ∧ p ≤ 23
  · rw [ptB_in h.1 h.2]
    have H1 := Lib.hid (fun W => l6In_ok p 0 23 W h.1 h.2)
    have H2 := Lib.hid (fun W => l1Bit_calls b p W h.1 (by omega))
    clear h
    generalize bitI b p = x at *
    go_enter Tryz.func57, Tryz.ntmps57
    go_wp2_with fail
    refine (H1.out _).mono ?_
    rintro e w' ⟨rfl, rfl⟩
    go_wp2_with fail
    refine (H2.out _).mono ?_
    rintro e w' ⟨rfl, rfl⟩
    go_wp2_with fail
    go_ret
    exact ⟨rfl, rfl⟩
  · have h2 : p < 0 ∨ 23 < p := by omega
    rw [ptB_no h2]
    have H1 := Lib.hid (fun W => l6In_no p 0 23 W h2)
    clear h h2
    go_enter Tryz.func57, Tryz.ntmps57
    go_wp2_with fail
    refine (H1.out _).mono ?_
    rintro e w' ⟨rfl, rfl⟩
    go_wp2_with fail
    go_ret
    exact ⟨rfl, rfl⟩
set_option maxHeartbeats 1000000 in
theorem l6pThrough_calls (L : List Int) (A : Option Addr) (c : Nat) (p q : Nat) (w : World) (hp : p < 24) (hq : q < 24) (hl : L.length ≤ 4096) (hW : ∀ j, j < L.length → IsW (L.getD j 0)) (hr : Rds w w.heap.size .i64 A L) :
    Calls Tryz.prog 80 #[.slice A L.length c, .int .i64 (p : Int), .int .i64 (q : Int)] w fun e w' => e = .returned (.int .i64 (thruI L (powI (p : Int) + powI (q : Int)))) ∧ ∃ k, w' = w.drewN k := by
  have HR := Lib.hid hr
  have HW := Lib.hid hW
  have p1 := powI_pos (p : Int)
  have p2 := powI_le (p : Int) (by omega) (by omega)
  have q1 := powI_pos (q : Int)
  have q2 := powI_le (q : Int) (by omega) (by omega)
  have HPP := Lib.hid (show (2 : Int) ^ p = powI (p : Int) by simp [powI])
  have HQQ := Lib.hid (show (2 : Int) ^ q = powI (q : Int) by simp [powI])
  have hp0 : (0 : Int) ≤ (p : Int) := by omega
  have hp9 : (p : Int) < 24 := by omega
  have hq0 : (0 : Int) ≤ (q : Int) := by omega
  have hq9 : (q : Int) < 24 := by omega
  have HA := Lib.hid (fun x (hx : IsW x) => show bits .and .i64 x (powI (p : Int) + powI (q : Int)) = andI x (powI (p : Int) + powI (q : Int)) from and_i64 x _ hx.1 (by have := hx.2; omega) (by omega) (by omega))
  have w1 : IntKind.i64.wrap (2 ^ p) = powI (p : Int) := by rw [HPP.out]; exact wrap_i64_in _ (by omega) (by omega)
  have w2 : IntKind.i64.wrap (2 ^ q) = powI (q : Int) := by rw [HQQ.out]; exact wrap_i64_in _ (by omega) (by omega)
  have HH := Lib.hid (fun k (hk : k < L.length) (h : ∀ j, j < k → hasB (powI (p : Int) + powI (q : Int)) (L.getD j 0) = false) (hp : hasB (powI (p : Int) + powI (q : Int)) (L.getD k 0) = true) => show thruI L (powI (p : Int) + powI (q : Int)) = L.getD k 0 from first_hit hk h hp)
  have HN := Lib.hid (fun (h : ∀ j, j < L.length → hasB (powI (p : Int) + powI (q : Int)) (L.getD j 0) = false) => show thruI L (powI (p : Int) + powI (q : Int)) = 0 by unfold thruI; rw [no_hit h]; rfl)
  generalize thruI L (powI (p : Int) + powI (q : Int)) = R at *
  obtain ⟨n, hn⟩ : ∃ n, L.length = n := ⟨_, rfl⟩
  rw [hn] at HH HN HW hl ⊢
  have HLEN := Lib.hid hn
  clear hn hr hW
  go_enter Tryz.func80, Tryz.ntmps80
  go_wp2_with fail
  go_quiet (fail)
  go_wp2_with fail
  obtain ⟨W0, hW0⟩ : ∃ W0, W0 = w.drewN nq := ⟨_, rfl⟩
  have HR0 : Rds W0 w.heap.size .i64 A L := by rw [hW0]; exact HR.out.drewN nq
  have HR0 := Lib.hid HR0
  have HEND := Lib.hid (show ∃ k, W0 = w.drewN k from ⟨nq, hW0⟩)
  rw [← hW0]
  clear hW0 HR HPP HQQ w1 w2 p1 p2 q1 q2
  generalize powI (p : Int) + powI (q : Int) = both at *
  go_loopw [8] (fun i wr => ∃ k : Nat, k ≤ n ∧ i = .int .i64 k ∧ Hid (wr = W0 ∧ ∀ j, j < k → hasB both (L.getD j 0) = false)) (fun i _ => n - (intOf i).toNat)
  case atStart => exact ⟨0, by omega, rfl, Lib.hid ⟨rfl, fun j h => absurd h (by omega)⟩⟩
  case round =>
    obtain ⟨k, hk, rfl, hh⟩ := hrel
    obtain ⟨hw, hnn⟩ := hh.out
    subst hw
    by_cases hlt : k < n
    · obtain ⟨bb, o, rfl, hb1, hc⟩ := HR0.out.at_ (j := k) (by rw [HLEN.out]; exact hlt)
      have hxw := HW.out k hlt
      have hand := HA.out _ hxw
      have HY1 := Lib.hid (HH.out k hlt hnn)
      have HN1 := Lib.hid (fun (h : hasB both (L.getD k 0) = false) j (hj : j < k + 1) => show hasB both (L.getD j 0) = false by
        rcases (by omega : j < k ∨ j = k) with h1 | h1
        · exact hnn j h1
        · rw [h1]; exact h)
      have hq1 : (0 : Int) ≤ (k : Int) := by omega
      have hq2 : (k : Int) < (n : Int) := by omega
      clear hnn hh
      generalize L.getD k 0 = z at *
      rcases hcase : hasB both z with _ | _
      · have HD := Lib.hid (HN1.out hcase)
        have hce : (andI z both == both) = false := hcase
        clear HN1 HY1 hcase
        generalize andI z both = m at *
        go_wp2_with fail
        go_roundw
        case rel => exact ⟨k + 1, by omega, by go_num, Lib.hid ⟨by first | exact rfl | trivial, HD.out⟩⟩
        case measure => simp [intOf]; omega
      · have hcc := HY1.out hcase
        have hce : (andI z both == both) = true := hcase
        clear HN1 HY1 hcase
        generalize andI z both = m at *
        subst hcc
        go_wp2_with fail
        go_ret
        exact ⟨rfl, HEND.out⟩
    · obtain rfl : k = n := by omega
      have hcc := HN.out hnn
      subst hcc
      clear hnn hh
      go_wp2_with fail
      go_ret
      exact ⟨rfl, HEND.out⟩
theorem l6pThrough_int (L : List Int) (A : Option Addr) (c : Nat) (p q : Int) (w : World) (hp : 0 ≤ p ∧ p ≤ 23) (hq : 0 ≤ q ∧ q ≤ 23) (hl : L.length ≤ 4096) (hW : ∀ j, j < L.length → IsW (L.getD j 0)) (hr : Rds w w.heap.size .i64 A L) :
    Calls Tryz.prog 80 #[.slice A L.length c, .int .i64 p, .int .i64 q] w fun e w' => e = .returned (.int .i64 (thruI L (powI p + powI q))) ∧ ∃ k, w' = w.drewN k := by
  obtain ⟨p', rfl⟩ := Int.eq_ofNat_of_zero_le hp.1
  obtain ⟨q', rfl⟩ := Int.eq_ofNat_of_zero_le hq.1
  exact l6pThrough_calls L A c p' q' w (by omega) (by omega) hl hW hr
set_option maxHeartbeats 1000000 in
theorem l6pThin_calls (L : List Int) (A : Option Addr) (c : Nat) (v : Int) (w : World) (hv : IsW v) (hl : L.length ≤ 4096) (hW : ∀ j, j < L.length → IsW (L.getD j 0)) (hr : Rds w w.heap.size .i64 A L) :
    Calls Tryz.prog 67 #[.slice A L.length c, .int .i64 v] w fun e w' => e = .returned (.bool (L.all fun x => decide (wt (andI x v) ≤ 2))) ∧ w = w' := by
  have HR := Lib.hid hr
  have HW := Lib.hid hW
  have HA := Lib.hid (fun x (hx : IsW x) => show bits .and .i64 x v = andI x v from and_i64 x _ hx.1 (by have := hx.2; omega) hv.1 (by have := hv.2; omega))
  have HY := Lib.hid (fun k (hk : k < L.length) (h : ¬ wt (andI (L.getD k 0) v) ≤ 2) => show (L.all fun x => decide (wt (andI x v) ≤ 2)) = false by
    rw [List.all_eq_false]
    refine ⟨L[k], List.getElem_mem hk, ?_⟩
    rw [getD_at _ k hk]
    simpa using h)
  have HN := Lib.hid (fun (h : ∀ j, j < L.length → wt (andI (L.getD j 0) v) ≤ 2) => show (L.all fun x => decide (wt (andI x v) ≤ 2)) = true by
    rw [List.all_eq_true]
    intro x hx
    obtain ⟨j, hj, rfl⟩ := List.getElem_of_mem hx
    have := h j hj
    rw [getD_at _ j hj]
    simpa using this)
  generalize (L.all fun x => decide (wt (andI x v) ≤ 2)) = cc at *
  obtain ⟨n, hn⟩ : ∃ n, L.length = n := ⟨_, rfl⟩
  rw [hn] at HY HN HW hl ⊢
  have HLEN := Lib.hid hn
  clear hn hr hW
  go_enter Tryz.func67, Tryz.ntmps67
  go_wp2_with fail
  go_loopw [5] (fun i wr => ∃ k : Nat, k ≤ n ∧ i = .int .i64 k ∧ Hid (wr = w ∧ ∀ j, j < k → wt (andI (L.getD j 0) v) ≤ 2)) (fun i _ => n - (intOf i).toNat)
  case atStart => exact ⟨0, by omega, rfl, Lib.hid ⟨rfl, fun j h => absurd h (by omega)⟩⟩
  case round =>
    obtain ⟨k, hk, rfl, hh⟩ := hrel
    obtain ⟨hw, hnn⟩ := hh.out
    subst hw
    by_cases hlt : k < n
    · obtain ⟨bb, o, rfl, hb1, hc⟩ := HR.out.at_ (j := k) (by rw [HLEN.out]; exact hlt)
      have hxw := HW.out k hlt
      have hand := HA.out _ hxw
      have HY1 := Lib.hid (HY.out k hlt)
      have HN1 := Lib.hid (fun (h : wt (andI (L.getD k 0) v) ≤ 2) j (hj : j < k + 1) => show wt (andI (L.getD j 0) v) ≤ 2 by
        rcases (by omega : j < k ∨ j = k) with h1 | h1
        · exact hnn j h1
        · rw [h1]; exact h)
      have hq1 : (0 : Int) ≤ (k : Int) := by omega
      have hq2 : (k : Int) < (n : Int) := by omega
      clear hnn hh
      generalize L.getD k 0 = z at *
      have HWT := Lib.hid (fun W => l1Weight_calls (andI z v) W)
      generalize andI z v = m at *
      by_cases hx : wt m ≤ 2
      · have HD := Lib.hid (HN1.out hx)
        clear HN1 HY1
        generalize wt m = t at *
        go_wp2_with fail
        refine (HWT.out _).mono ?_
        rintro e w' ⟨rfl, rfl⟩
        go_wp2_with fail
        go_roundw
        case rel => exact ⟨k + 1, by omega, by go_num, Lib.hid ⟨by first | exact rfl | trivial, HD.out⟩⟩
        case measure => simp [intOf]; omega
      · have hcc := HY1.out (by omega)
        subst hcc
        clear HN1 HY1
        have hx2 : 2 < wt m := by omega
        generalize wt m = t at *
        go_wp2_with fail
        refine (HWT.out _).mono ?_
        rintro e w' ⟨rfl, rfl⟩
        go_wp2_with fail
        go_ret
        exact ⟨rfl, rfl⟩
    · obtain rfl : k = n := by omega
      have hcc := HN.out hnn
      subst hcc
      clear hnn hh
      go_wp2_with fail
      go_ret
      exact ⟨rfl, rfl⟩
theorem plLine_yes {b p q : Int} (h : baseB b = true) (h1 : ptB b p = true) (h2 : ptB b q = true) (h3 : p ≠ q) : plLine b p q = (thruI (lns b) (powI p + powI q), true) := by
  unfold plLine
  rw [h, h1, h2, decide_eq_true h3]; rfl
theorem arcB_base {b w n : Int} (h : baseB b = false) : arcB b w n = false := by unfold arcB; rw [h]; rfl
theorem arcB_word {b w n : Int} (h : wordB w = false) : arcB b w n = false := by unfold arcB; rw [h, Bool.false_and, Bool.and_false]
theorem arcB_wt {b w n : Int} (h : ¬ wt w = n) : arcB b w n = false := by unfold arcB; rw [decide_eq_false h, Bool.false_and, Bool.and_false, Bool.and_false]
theorem arcB_and {b w n : Int} (h : ¬ andI w b = 0) : arcB b w n = false := by unfold arcB; rw [decide_eq_false h, Bool.false_and, Bool.and_false, Bool.and_false, Bool.and_false]
theorem arcB_thin {b w n : Int} (h : baseB b = true) (h1 : wordB w = true) (h2 : wt w = n) (h3 : andI w b = 0) : arcB b w n = thinB b w := by unfold arcB; rw [h, h1, decide_eq_true h2, decide_eq_true h3]; simp
set_option maxHeartbeats 2000000 in
theorem sPlaneOval_calls (b v : Int) (w : World) :
    Calls Tryz.prog 22 #[.int .i64 b, .int .i64 v] w fun e w' => e = .returned (.bool (plOval b v)) ∧ Below w.heap.size w w' := by
  unfold plOval
  rcases hb : baseB b with _ | _
  · rw [arcB_base hb]
    have HN := Lib.hid (l6pBase_no b hb)
    clear hb
    go_enter Tryz.func22, Tryz.ntmps22
    go_wp2_with fail
    refine (HN.out _).mono ?_
    rintro e w' ⟨rfl, rfl⟩
    go_wp2_with fail
    go_ret
    exact ⟨rfl, Below.refl _ _⟩
  have HN := Lib.hid (l6pBase_yes b hb)
  rcases hv : wordB v with _ | _
  · rw [arcB_word hv]
    have HV := Lib.hid (fun W => sWordValid_no v W ((wordB_no v).1 hv))
    clear hb hv
    go_enter Tryz.func22, Tryz.ntmps22
    go_wp2_with fail
    refine (HN.out _).mono ?_
    rintro e w' ⟨rfl, rfl⟩
    go_wp2_with fail
    refine (HV.out _).mono ?_
    rintro e w' ⟨rfl, rfl⟩
    go_wp2_with fail
    go_ret
    exact ⟨rfl, Below.refl _ _⟩
  have wv : IsW v := (wordB_iff v).1 hv
  have HV := Lib.hid (fun W => sWordValid_ok v W wv.1 wv.2)
  have HWT := Lib.hid (fun W => l1Weight_calls v W)
  by_cases h6 : wt v = 6
  · obtain ⟨B, rfl, hB⟩ := baseB_nat hb
    have hB0 := hB.1
    have hand : bits .and .i64 v (B : Int) = andI v (B : Int) := and_i64 v (B : Int) wv.1 (by have := wv.2; omega) (by omega) (by omega)
    rw [h6] at HWT
    by_cases h0 : andI v (B : Int) = 0
    · rw [arcB_thin hb hv h6 h0]
      rw [h0] at hand
      have HLS := Lib.hid (l6pLines_calls B hB)
      have HLEN := Lib.hid (lns_len hB)
      have HTH := Lib.hid (fun A c W hr => l6pThin_calls (lns (B : Int)) A c v W wv (by rw [lns_len hB]; decide) (fun j hj => lns_W hB j (by rw [lns_len hB] at hj; exact hj)) hr)
      rw [show ((lns (B : Int)).all fun x => decide (wt (andI x v) ≤ 2)) = thinB (B : Int) v from rfl, lns_len hB] at HTH
      clear hb hv h6 h0
      generalize thinB (B : Int) v = t at *
      generalize lns (B : Int) = L at *
      generalize (B : Int) = b at *
      go_enter Tryz.func22, Tryz.ntmps22
      go_wp2_with fail
      refine (HN.out _).mono ?_
      rintro e w' ⟨rfl, rfl⟩
      go_wp2_with fail
      refine (HV.out _).mono ?_
      rintro e w' ⟨rfl, rfl⟩
      go_wp2_with fail
      refine (HWT.out _).mono ?_
      rintro e w' ⟨rfl, rfl⟩
      go_wp2_with fail
      refine (HLS.out _).mono ?_
      rintro e w1 ⟨v1, rfl, o1, b1⟩
      obtain ⟨A1, c1, rfl⟩ := o1.slice
      rw [HLEN.out]
      go_wp2_with fail
      refine (HTH.out _ _ _ o1.rds).mono ?_
      rintro e w' ⟨rfl, rfl⟩
      go_wp2_with fail
      go_ret
      exact ⟨rfl, b1⟩
    · rw [arcB_and h0]
      have h01 : (andI v (B : Int) == 0) = false := by simpa using h0
      clear hb hv h6 h0
      generalize andI v (B : Int) = m at *
      generalize (B : Int) = b at *
      go_enter Tryz.func22, Tryz.ntmps22
      go_wp2_with fail
      refine (HN.out _).mono ?_
      rintro e w' ⟨rfl, rfl⟩
      go_wp2_with fail
      refine (HV.out _).mono ?_
      rintro e w' ⟨rfl, rfl⟩
      go_wp2_with fail
      refine (HWT.out _).mono ?_
      rintro e w' ⟨rfl, rfl⟩
      go_wp2_with fail
      go_ret
      exact ⟨rfl, Below.refl _ _⟩
  · rw [arcB_wt h6]
    have h61 : (wt v == 6) = false := by simpa using h6
    clear hb hv h6
    generalize wt v = t at *
    go_enter Tryz.func22, Tryz.ntmps22
    go_wp2_with fail
    refine (HN.out _).mono ?_
    rintro e w' ⟨rfl, rfl⟩
    go_wp2_with fail
    refine (HV.out _).mono ?_
    rintro e w' ⟨rfl, rfl⟩
    go_wp2_with fail
    refine (HWT.out _).mono ?_
    rintro e w' ⟨rfl, rfl⟩
    go_wp2_with fail
    go_ret
    exact ⟨rfl, Below.refl _ _⟩
theorem hasB_bit {x : Int} {p : Nat} (hx : IsW x) (hp : p < 24) : hasB (powI (p : Int)) x = (bitI x (p : Int) == 1) := by
  unfold hasB
  rw [and_pow x (p : Int) hx.1 (by omega)]
  have h1 := powI_pos (p : Int)
  rcases bitI_01 x (p : Int) with h | h
  · rw [h, Int.zero_mul]
    rw [show ((0 : Int) == powI (p : Int)) = false by rw [beq_eq_false_iff_ne]; omega]
    rfl
  · rw [h, Int.one_mul]
    simp
set_option maxRecDepth 100000 in
set_option maxHeartbeats 2000000 in
theorem sPlaneOn_calls (b p : Int) (w : World) :
    Calls Tryz.prog 19 #[.int .i64 b, .int .i64 p] w (GotL w (plOn b p).1 (plOn b p).2) := by
  have HE := Lib.hid (own_empty w w.heap.size (Nat.le_refl _))
  rcases hb : baseB b with _ | _
  · rw [show plOn b p = ([], false) by simp [plOn, hb]]
    have HN := Lib.hid (l6pBase_no b hb)
    clear hb
    go_enter Tryz.func19, Tryz.ntmps19
    go_wp2_with fail
    refine (HN.out _).mono ?_
    rintro e w' ⟨rfl, rfl⟩
    go_wp2_with fail
    go_ret2
    exact ⟨_, rfl, HE.out, (Below.refl _ _).alloc (Nat.le_refl _) _⟩
  have HN := Lib.hid (l6pBase_yes b hb)
  have HP := Lib.hid (fun W => l6pPoint_calls b p W)
  rcases h1 : ptB b p with _ | _
  · rw [show plOn b p = ([], false) by simp [plOn, h1]]
    rw [h1] at HP
    clear hb h1
    go_enter Tryz.func19, Tryz.ntmps19
    go_wp2_with fail
    refine (HN.out _).mono ?_
    rintro e w' ⟨rfl, rfl⟩
    go_wp2_with fail
    refine (HP.out _).mono ?_
    rintro e w' ⟨rfl, rfl⟩
    go_wp2_with fail
    go_ret2
    exact ⟨_, rfl, HE.out, (Below.refl _ _).alloc (Nat.le_refl _) _⟩
  · rw [show plOn b p = ((lns b).filter (hasB (powI p)), true) by simp [plOn, hb, h1]]
    rw [h1] at HP
    obtain ⟨B, rfl, hB⟩ := baseB_nat hb
    obtain ⟨p, rfl, hp, _⟩ := ptB_nat h1
    have HLS := Lib.hid (l6pLines_calls B hB)
    have HLEN := Lib.hid (lns_len hB)
    have HWL := Lib.hid (fun j (hj : j < 21) => lns_W hB j hj)
    have HHB := Lib.hid (fun j (hj : j < 21) => hasB_bit (lns_W hB j hj) hp)
    have hlen := lns_len hB
    dsimp only
    clear hb h1
    generalize lns (B : Int) = L at *
    generalize (B : Int) = b at *
    have HTK := Lib.hid (fun k (hk : k < 21) => show (L.take (k + 1)).filter (hasB (powI (p : Int))) = if hasB (powI (p : Int)) (L.getD k 0) then (L.take k).filter (hasB (powI (p : Int))) ++ [L.getD k 0] else (L.take k).filter (hasB (powI (p : Int))) by rw [tk_succ L k (by omega), filter_snoc])
    have HLE := Lib.hid (fun k => show ((L.take k).filter (hasB (powI (p : Int)))).length ≤ 21 by
      have h1 := List.length_filter_le (hasB (powI (p : Int))) (L.take k)
      have h2 : (L.take k).length ≤ L.length := by rw [List.length_take]; omega
      omega)
    have HALL := Lib.hid (show L.take 21 = L from List.take_of_length_le (by omega))
    have HB1 := Lib.hid (fun x W => l1Bit_calls x (p : Int) W (by omega) (by omega))
    clear hlen
    go_enter Tryz.func19, Tryz.ntmps19
    go_wp2_with fail
    refine (HN.out _).mono ?_
    rintro e w' ⟨rfl, rfl⟩
    go_wp2_with fail
    refine (HP.out _).mono ?_
    rintro e w' ⟨rfl, rfl⟩
    go_wp2_with fail
    refine (HLS.out _).mono ?_
    rintro e w1 ⟨v1, rfl, o1, b1⟩
    obtain ⟨A, c, rfl⟩ := o1.slice
    rw [HLEN.out]
    have HB := Lib.hid (((Below.refl w.heap.size w).alloc (Nat.le_refl _) (.cells #[] 3)).trans (b1.mono (by simp)))
    have HO1 := Lib.hid (HE.out.below b1)
    have HR := Lib.hid o1.rds
    have hs1 : w.heap.size < w1.heap.size := by have := b1.size; simp at this; omega
    have HA := Lib.hid (show ∀ ad, A = some ad → w.heap.size < ad.block from fun ad h => by have := own_lo' o1 ad h; simp at this; omega)
    have HAU := Lib.hid (show ∀ ad, A = some ad → ad.block < w1.heap.size from fun ad h => by
      obtain ⟨b, o, e, hb, _⟩ := o1.rds.at_ (j := 0) (by rw [HLEN.out]; decide)
      rw [e] at h; cases h; exact hb)
    clear b1 o1 HE
    go_wp2_with fail
    go_loopw [6, 8] (fun v i wr => ∃ k : Nat, k ≤ 21 ∧ i = .int .i64 k ∧ Hid (Own wr w.heap.size v ((L.take k).filter (hasB (powI (p : Int))))) ∧ Hid (Rds wr w1.heap.size .i64 A L) ∧ Hid (∀ j, v.ownBlock = some j → j = w.heap.size ∨ w1.heap.size ≤ j) ∧ Hid (Below w.heap.size w wr) ∧ w1.heap.size ≤ wr.heap.size) (fun _ i _ => 21 - (intOf i).toNat)
    case atStart => exact ⟨0, by omega, rfl, HO1, HR, Lib.hid (fun j h => by simp [Value.ownBlock] at h; omega), HB, Nat.le_refl _⟩
    case round =>
      obtain ⟨k, hk, rfl, ho, hr, hj, hb, hz⟩ := hrel
      by_cases hlt : k < 21
      · have HS := Lib.hid (HTK.out k hlt)
        obtain ⟨bb, o, rfl, hb1, hc⟩ := hr.out.at_ (j := k) (by rw [HLEN.out]; exact hlt)
        have hx := HWL.out k hlt
        have hl := HLE.out k
        have hhb := HHB.out k hlt
        have hq1 : (0 : Int) ≤ (k : Int) := by omega
        have hq2 : (k : Int) < 21 := by omega
        generalize L.getD k 0 = x at *
        generalize (L.take k).filter (hasB (powI (p : Int))) = M at *
        have HBX := Lib.hid (HB1.out x)
        rcases hcase : hasB (powI (p : Int)) x with _ | _
        · have HS2 := Lib.hid (show (L.take (k + 1)).filter (hasB (powI (p : Int))) = M by rw [HS.out, hcase]; rfl)
          rw [hcase] at hhb
          have hhb2 := hhb.symm
          clear hhb hcase HS
          generalize bitI x (p : Int) = y at *
          go_wp2_with fail
          refine (HBX.out _).mono ?_
          rintro e w' ⟨rfl, rfl⟩
          go_wp2_with fail
          go_roundw
          case rel => exact ⟨k + 1, by omega, by go_num, by rw [HS2.out]; exact ho, hr, hj, hb, hz⟩
          case measure => simp [intOf]; omega
        · have HS2 := Lib.hid (show (L.take (k + 1)).filter (hasB (powI (p : Int))) = M ++ [x] by rw [HS.out, hcase]; rfl)
          rw [hcase] at hhb
          have hhb2 := hhb.symm
          clear hhb hcase HS
          generalize bitI x (p : Int) = y at *
          go_wp2_with fail
          refine (HBX.out _).mono ?_
          rintro e w' ⟨rfl, rfl⟩
          go_wp2_with (at_builtin; refine wpList_pushAt rfl _ _ rfl _ w.heap.size _ _ _ _ rfl rfl (by exact ho.out) (by omega) (by omega) ?_; intro v2 w2 ho2 hb2 hg2 hat)
          go_roundw
          case rel =>
            refine ⟨k + 1, by omega, by go_num, by rw [HS2.out]; exact Lib.hid ho2, Lib.hid (hr.out.apart hg2 hz fun ad h e => ?_), Lib.hid (fun j h => ?_), Lib.hid (hb.out.trans hb2), Nat.le_trans hz hg2.size⟩
            · have h1 := HA.out ad h
              have h2 := HAU.out ad h
              rcases hj.out _ e with h3 | h3 <;> omega
            · rcases hat j h with h1 | h1
              · exact hj.out j h1
              · exact .inr (by omega)
          case measure => simp [intOf]; omega
      · obtain rfl : k = 21 := by omega
        rw [HALL.out] at ho
        go_wp2_with fail
        go_ret2
        exact ⟨_, rfl, ho.out, hb.out⟩
theorem plI_rng {w : Int} (k : Nat) (h : k < (plI w.toNat).length) : 0 ≤ (plI w.toNat).getD k 0 ∧ (plI w.toNat).getD k 0 ≤ 23 := by
  have hm : (plI w.toNat).getD k 0 ∈ plI w.toNat := by rw [← getD_at _ k h]; exact List.getElem_mem _
  unfold plI at hm ⊢
  obtain ⟨x, hx, e⟩ := List.mem_map.1 hm
  have := pl_lt _ x hx
  rw [← e]
  omega
end Go.Proofs.YtmeejnkpaiinaacGreatDoor
/- The model's PlaneFour and PlaneSub. -/
namespace Go.Proofs.YtmeejnkpaiinaacGreatDoor
open Go.RowKit
set_option linter.unusedVariables false
attribute [local irreducible] octS cN octF syn

theorem quietT_left {P : Program} {f : FuncId} {args : Array Value} {w : World} {n : Nat} {v : Value}
    (h : Calls P f args (w.drewN n) fun e w' => e = .returned v ∧ ∃ k, w' = (w.drewN n).drewN k) : Calls P f args (w.drewN n) fun e w'' => e = .returned v ∧ ∃ m, w'' = w.drewN m :=
  h.mono fun _ _ ⟨he, k, hm⟩ => ⟨he, n + k, by rw [hm, World.drewN_drewN]⟩
theorem quietT_add_left {P : Program} {f : FuncId} {args : Array Value} {w : World} {a n : Nat} {v : Value}
    (h : Calls P f args (w.drewN (a + n)) fun e w' => e = .returned v ∧ ∃ k, w' = (w.drewN (a + n)).drewN k) :
    Calls P f args (w.drewN (a + n)) fun e w'' => e = .returned v ∧ ∃ m, w'' = w.drewN (a + m) :=
  h.mono fun _ _ ⟨he, k, hm⟩ => ⟨he, n + k, by rw [hm, World.drewN_drewN, Nat.add_assoc]⟩
theorem thruI_W {B : Nat} (hB : IsBase B) (T : Int) : IsW (thruI (lns (B : Int)) T) := by
  unfold thruI
  have h : ∀ x ∈ (lns (B : Int)).filter (hasB T), IsW x := fun x hx => by
    obtain ⟨j, hj, rfl⟩ := List.getElem_of_mem (List.mem_filter.1 hx).1
    have := lns_W hB j (by rw [lns_len hB] at hj; exact hj)
    rw [← getD_at _ j hj] at this
    exact this
  generalize (lns (B : Int)).filter (hasB T) = M at *
  match M with
  | [] => exact ⟨by simp, by simp⟩
  | x :: M => exact h x (List.mem_cons_self ..)
theorem arc_no4 {b v : Int} (h : arcB b v 4 = false) : plFour b v = (0, false) := by unfold plFour; rw [h]; rfl
theorem arc_yes4 {b v : Int} (h : arcB b v 4 = true) : plFour b v = (fourI b v, true) := by unfold plFour; rw [h]; rfl
set_option maxRecDepth 100000 in
set_option maxHeartbeats 4000000 in
theorem sPlaneFour_yes (B v : Nat) (w : World) (hB : IsBase B) (h : arcB (B : Int) (v : Int) 4 = true) :
    Calls Tryz.prog 31 #[.int .i64 (B : Int), .int .i64 (v : Int)] w fun e w' => e = .returned (.tuple #[.int .i64 (fourI (B : Int) (v : Int)), .bool true]) ∧ Below w.heap.size w w' := by
  have hb : baseB (B : Int) = true := baseB_of hB
  have hv : wordB (v : Int) = true := by unfold arcB at h; simp only [Bool.and_eq_true] at h; exact h.2.1
  have hn : wt (v : Int) = 4 := by unfold arcB at h; simp only [Bool.and_eq_true, decide_eq_true_eq] at h; exact h.2.2.1
  have h0 : andI (v : Int) (B : Int) = 0 := by unfold arcB at h; simp only [Bool.and_eq_true, decide_eq_true_eq] at h; exact h.2.2.2.1
  have hth : thinB (B : Int) (v : Int) = true := by unfold arcB at h; simp only [Bool.and_eq_true, decide_eq_true_eq] at h; exact h.2.2.2.2
  have wv : IsW (v : Int) := (wordB_iff _).1 hv
  have hw : v < 16777216 := by have := wv.2; omega
  have hB0 := hB.1
  have hand : bits .and .i64 (v : Int) (B : Int) = 0 := by rw [and_i64 (v : Int) (B : Int) wv.1 (by have := wv.2; omega) (by omega) (by omega)]; exact h0
  have hpop : pop v = 4 := by rw [wt_pop] at hn; omega
  have hpl : (pl v).length = 4 := by rw [← pop_pl]; exact hpop
  have HN := Lib.hid (l6pBase_yes (B : Int) hb)
  have HV := Lib.hid (fun W => sWordValid_ok (v : Int) W wv.1 wv.2)
  have HWT := Lib.hid (fun W => l1Weight_calls (v : Int) W)
  rw [hn] at HWT
  have HLS := Lib.hid (l6pLines_calls B hB)
  have HLEN := Lib.hid (lns_len hB)
  have HTN := Lib.hid (fun A c W hr => l6pThin_calls (lns (B : Int)) A c (v : Int) W wv (by rw [lns_len hB]; decide) (fun j hj => lns_W hB j (by rw [lns_len hB] at hj; exact hj)) hr)
  rw [show ((lns (B : Int)).all fun x => decide (wt (andI x (v : Int)) ≤ 2)) = thinB (B : Int) (v : Int) from rfl, lns_len hB, hth] at HTN
  have HPL := Lib.hid (fun W => l1Places_calls v W)
  have hlt : ∀ x ∈ pl v, x < 24 := pl_lt v
  have hthr := fun A c (p q : Nat) W hp hq hr => l6pThrough_calls (lns (B : Int)) A c p q W hp hq (by rw [lns_len hB]; decide) (fun j hj => lns_W hB j (by rw [lns_len hB] at hj; exact hj)) hr
  rw [lns_len hB] at hthr
  match hP : pl v, hpl with
  | [p0, p1, p2, p3], _ =>
    rw [hP] at hlt
    have l0 : p0 < 24 := hlt p0 (by simp)
    have l1 : p1 < 24 := hlt p1 (by simp)
    have l2 : p2 < 24 := hlt p2 (by simp)
    have l3 : p3 < 24 := hlt p3 (by simp)
    have e : plI v = [(p0 : Int), (p1 : Int), (p2 : Int), (p3 : Int)] := by unfold plI; rw [hP]; rfl
    have hF : fourI (B : Int) (v : Int) = orI (orI (andI (thruI (lns (B : Int)) (powI (p0 : Int) + powI (p1 : Int))) (thruI (lns (B : Int)) (powI (p2 : Int) + powI (p3 : Int)))) (andI (thruI (lns (B : Int)) (powI (p0 : Int) + powI (p2 : Int))) (thruI (lns (B : Int)) (powI (p1 : Int) + powI (p3 : Int))))) (andI (thruI (lns (B : Int)) (powI (p0 : Int) + powI (p3 : Int))) (thruI (lns (B : Int)) (powI (p1 : Int) + powI (p2 : Int)))) := by
      unfold fourI
      rw [Int.toNat_natCast, e]
      rfl
    rw [hF]
    rw [e] at HPL
    have H01 := Lib.hid (fun A c W hr => hthr A c p0 p1 W l0 l1 hr)
    have H23 := Lib.hid (fun A c W hr => hthr A c p2 p3 W l2 l3 hr)
    have H02 := Lib.hid (fun A c W hr => hthr A c p0 p2 W l0 l2 hr)
    have H13 := Lib.hid (fun A c W hr => hthr A c p1 p3 W l1 l3 hr)
    have H03 := Lib.hid (fun A c W hr => hthr A c p0 p3 W l0 l3 hr)
    have H12 := Lib.hid (fun A c W hr => hthr A c p1 p2 W l1 l2 hr)
    have w01 := thruI_W hB (powI (p0 : Int) + powI (p1 : Int))
    have w23 := thruI_W hB (powI (p2 : Int) + powI (p3 : Int))
    have w02 := thruI_W hB (powI (p0 : Int) + powI (p2 : Int))
    have w13 := thruI_W hB (powI (p1 : Int) + powI (p3 : Int))
    have w03 := thruI_W hB (powI (p0 : Int) + powI (p3 : Int))
    have w12 := thruI_W hB (powI (p1 : Int) + powI (p2 : Int))
    have aw : ∀ x y : Int, IsW x → IsW y → bits .and .i64 x y = andI x y := fun x y hx hy => and_i64 x y hx.1 (by have := hx.2; omega) hy.1 (by have := hy.2; omega)
    have ow : ∀ x y : Int, IsW x → IsW y → bits .or .i64 x y = orI x y := fun x y hx hy => or_i64 x y hx.1 (by have := hx.2; omega) hy.1 (by have := hy.2; omega)
    have wa : ∀ x y : Int, IsW y → IsW (andI x y) := fun x y hy => ⟨andI_nonneg _ _, andI_le _ _ hy.2⟩
    clear hF e hlt hpl hP hthr h hb hv hn h0 hth hpop
    generalize thruI (lns (B : Int)) (powI (p0 : Int) + powI (p1 : Int)) = t01 at *
    generalize thruI (lns (B : Int)) (powI (p2 : Int) + powI (p3 : Int)) = t23 at *
    generalize thruI (lns (B : Int)) (powI (p0 : Int) + powI (p2 : Int)) = t02 at *
    generalize thruI (lns (B : Int)) (powI (p1 : Int) + powI (p3 : Int)) = t13 at *
    generalize thruI (lns (B : Int)) (powI (p0 : Int) + powI (p3 : Int)) = t03 at *
    generalize thruI (lns (B : Int)) (powI (p1 : Int) + powI (p2 : Int)) = t12 at *
    have ha := aw _ _ w01 w23
    have hb := aw _ _ w02 w13
    have hc := aw _ _ w03 w12
    have wab := wa t01 t23 w23
    have wbb := wa t02 t13 w13
    have wcb := wa t03 t12 w12
    clear w01 w23 w02 w13 w03 w12
    generalize andI t01 t23 = ya at *
    generalize andI t02 t13 = yb at *
    generalize andI t03 t12 = yc at *
    have hab := ow _ _ wab wbb
    have hw2 : IsW (orI ya yb) := ⟨orI_nonneg _ _, orI_le _ _ wab.2 wbb.2⟩
    have habc := ow _ _ hw2 wcb
    clear aw ow wa wab wbb wcb hw2 wv hw
    generalize orI (orI ya yb) yc = R at *
    generalize orI ya yb = yab at *
    generalize lns (B : Int) = L at *
    generalize (B : Int) = b at *
    generalize (v : Int) = v at *
    generalize (p0 : Int) = p0 at *
    generalize (p1 : Int) = p1 at *
    generalize (p2 : Int) = p2 at *
    generalize (p3 : Int) = p3 at *
    go_enter Tryz.func31, Tryz.ntmps31
    go_wp2_with fail
    refine (HN.out _).mono ?_
    rintro e w' ⟨rfl, rfl⟩
    go_wp2_with fail
    refine (HV.out _).mono ?_
    rintro e w' ⟨rfl, rfl⟩
    go_wp2_with fail
    refine (HWT.out _).mono ?_
    rintro e w' ⟨rfl, rfl⟩
    go_wp2_with fail
    refine (HLS.out _).mono ?_
    rintro e w1 ⟨v1, rfl, o1, b1⟩
    obtain ⟨A1, c1, rfl⟩ := o1.slice
    rw [HLEN.out]
    go_wp2_with fail
    refine (HTN.out _ _ _ o1.rds).mono ?_
    rintro e w' ⟨rfl, rfl⟩
    go_wp2_with fail
    refine (HPL.out _).mono ?_
    rintro e w2 ⟨v2, rfl, o2, b2⟩
    obtain ⟨g, cc, rfl⟩ : ∃ g cc, v2 = .slice (some ⟨g, 0, none⟩) 4 cc := by
      rcases o2.form with ⟨_, h0⟩ | ⟨g, cap, h0, _⟩
      · simp at h0
      · exact ⟨g, cap, h0⟩
    have hc0 := o2.cell (j := 0) (by simp)
    have hc1 := o2.cell (j := 1) (by simp)
    have hc2 := o2.cell (j := 2) (by simp)
    have hc3 := o2.cell (j := 3) (by simp)
    simp only [List.getD_cons_zero, List.getD_cons_succ] at hc0 hc1 hc2 hc3
    have HB2 := Lib.hid (b1.trans (b2.mono b1.size))
    have HR2 := Lib.hid (o1.below b2).rds
    clear o1 o2 b1 b2
    dsimp only
    have HX := Lib.hid (fun n => H01.out A1 c1 (w2.drewN n) (show Rds (w2.drewN n) (w2.drewN n).heap.size .i64 A1 L from HR2.out.drewN n))
    have HY := Lib.hid (fun n => H23.out A1 c1 (w2.drewN n) (show Rds (w2.drewN n) (w2.drewN n).heap.size .i64 A1 L from HR2.out.drewN n))
    go_wp2_with fail
    go_quiet ((go_at_call 80; first | with_reducible exact quietT_left (HX.out _) | with_reducible exact quietT_add_left (HX.out _) | with_reducible exact quietT_left (HY.out _) | with_reducible exact quietT_add_left (HY.out _)))
    obtain ⟨W3, hW⟩ : ∃ W, W = w2.drewN nq := ⟨_, rfl⟩
    rw [← hW]
    have hcw : ∀ a, W3.cell? a = w2.cell? a := fun a => by rw [hW]; rfl
    rw [← hcw] at hc0 hc1 hc2 hc3
    replace HR2 : Hid (Rds W3 W3.heap.size .i64 A1 L) := Lib.hid (by rw [hW]; exact HR2.out.drewN nq)
    replace HB2 : Hid (Below w.heap.size w W3) := Lib.hid (by rw [hW]; exact below_drewN HB2.out nq)
    clear hW HX HY hcw
    have HX := Lib.hid (fun n => H02.out A1 c1 (W3.drewN n) (show Rds (W3.drewN n) (W3.drewN n).heap.size .i64 A1 L from HR2.out.drewN n))
    have HY := Lib.hid (fun n => H13.out A1 c1 (W3.drewN n) (show Rds (W3.drewN n) (W3.drewN n).heap.size .i64 A1 L from HR2.out.drewN n))
    go_wp2_with fail
    go_quiet ((go_at_call 80; first | with_reducible exact quietT_left (HX.out _) | with_reducible exact quietT_add_left (HX.out _) | with_reducible exact quietT_left (HY.out _) | with_reducible exact quietT_add_left (HY.out _)))
    obtain ⟨W4, hW⟩ : ∃ W, W = W3.drewN nq := ⟨_, rfl⟩
    rw [← hW]
    have hcw : ∀ a, W4.cell? a = W3.cell? a := fun a => by rw [hW]; rfl
    rw [← hcw] at hc0 hc1 hc2 hc3
    replace HR2 : Hid (Rds W4 W4.heap.size .i64 A1 L) := Lib.hid (by rw [hW]; exact HR2.out.drewN nq)
    replace HB2 : Hid (Below w.heap.size w W4) := Lib.hid (by rw [hW]; exact below_drewN HB2.out nq)
    clear hW HX HY hcw
    have HX := Lib.hid (fun n => H03.out A1 c1 (W4.drewN n) (show Rds (W4.drewN n) (W4.drewN n).heap.size .i64 A1 L from HR2.out.drewN n))
    have HY := Lib.hid (fun n => H12.out A1 c1 (W4.drewN n) (show Rds (W4.drewN n) (W4.drewN n).heap.size .i64 A1 L from HR2.out.drewN n))
    go_wp2_with fail
    go_quiet ((go_at_call 80; first | with_reducible exact quietT_left (HX.out _) | with_reducible exact quietT_add_left (HX.out _) | with_reducible exact quietT_left (HY.out _) | with_reducible exact quietT_add_left (HY.out _)))
    obtain ⟨W5, hW⟩ : ∃ W, W = W4.drewN nq := ⟨_, rfl⟩
    rw [← hW]
    have hcw : ∀ a, W5.cell? a = W4.cell? a := fun a => by rw [hW]; rfl
    rw [← hcw] at hc0 hc1 hc2 hc3
    replace HR2 : Hid (Rds W5 W5.heap.size .i64 A1 L) := Lib.hid (by rw [hW]; exact HR2.out.drewN nq)
    replace HB2 : Hid (Below w.heap.size w W5) := Lib.hid (by rw [hW]; exact below_drewN HB2.out nq)
    clear hW HX HY hcw
    go_wp2_with fail
    go_ret2
    exact ⟨rfl, HB2.out⟩
theorem fourI_W {B : Nat} (hB : IsBase B) (v : Int) : IsW (fourI (B : Int) v) := by
  unfold fourI
  have h := thruI_W hB
  exact ⟨orI_nonneg _ _, orI_le _ _ (orI_le _ _ (andI_le _ _ (h _).2) (andI_le _ _ (h _).2)) (andI_le _ _ (h _).2)⟩
set_option maxRecDepth 100000 in
set_option maxHeartbeats 4000000 in
theorem sPlaneFour_no (b v : Int) (w : World) (h : arcB b v 4 = false) :
    Calls Tryz.prog 31 #[.int .i64 b, .int .i64 v] w fun e w' => e = .returned (.tuple #[.int .i64 0, .bool false]) ∧ Below w.heap.size w w' := by
  rcases hb : baseB b with _ | _
  · have HN := Lib.hid (l6pBase_no b hb)
    clear hb h
    go_enter Tryz.func31, Tryz.ntmps31
    go_wp2_with fail
    refine (HN.out _).mono ?_
    rintro e w' ⟨rfl, rfl⟩
    go_wp2_with fail
    go_ret2
    exact ⟨rfl, Below.refl _ _⟩
  have HN := Lib.hid (l6pBase_yes b hb)
  rcases hv : wordB v with _ | _
  · have HV := Lib.hid (fun W => sWordValid_no v W ((wordB_no v).1 hv))
    clear hb hv h
    go_enter Tryz.func31, Tryz.ntmps31
    go_wp2_with fail
    refine (HN.out _).mono ?_
    rintro e w' ⟨rfl, rfl⟩
    go_wp2_with fail
    refine (HV.out _).mono ?_
    rintro e w' ⟨rfl, rfl⟩
    go_wp2_with fail
    go_ret2
    exact ⟨rfl, Below.refl _ _⟩
  have wv : IsW v := (wordB_iff v).1 hv
  have HV := Lib.hid (fun W => sWordValid_ok v W wv.1 wv.2)
  have HWT := Lib.hid (fun W => l1Weight_calls v W)
  by_cases h4 : wt v = 4
  · obtain ⟨B, rfl, hB⟩ := baseB_nat hb
    have hB0 := hB.1
    have hand : bits .and .i64 v (B : Int) = andI v (B : Int) := and_i64 v (B : Int) wv.1 (by have := wv.2; omega) (by omega) (by omega)
    rw [h4] at HWT
    by_cases h0 : andI v (B : Int) = 0
    · rw [h0] at hand
      have hth : thinB (B : Int) v = false := by
        unfold arcB at h
        rw [hb, hv, decide_eq_true h4, decide_eq_true h0] at h
        simpa using h
      have HLS := Lib.hid (l6pLines_calls B hB)
      have HLEN := Lib.hid (lns_len hB)
      have HTH := Lib.hid (fun A c W hr => l6pThin_calls (lns (B : Int)) A c v W wv (by rw [lns_len hB]; decide) (fun j hj => lns_W hB j (by rw [lns_len hB] at hj; exact hj)) hr)
      rw [show ((lns (B : Int)).all fun x => decide (wt (andI x v) ≤ 2)) = thinB (B : Int) v from rfl, lns_len hB, hth] at HTH
      clear hb hv h4 h0 h hth
      generalize lns (B : Int) = L at *
      generalize (B : Int) = b at *
      go_enter Tryz.func31, Tryz.ntmps31
      go_wp2_with fail
      refine (HN.out _).mono ?_
      rintro e w' ⟨rfl, rfl⟩
      go_wp2_with fail
      refine (HV.out _).mono ?_
      rintro e w' ⟨rfl, rfl⟩
      go_wp2_with fail
      refine (HWT.out _).mono ?_
      rintro e w' ⟨rfl, rfl⟩
      go_wp2_with fail
      refine (HLS.out _).mono ?_
      rintro e w1 ⟨v1, rfl, o1, b1⟩
      obtain ⟨A1, c1, rfl⟩ := o1.slice
      rw [HLEN.out]
      go_wp2_with fail
      refine (HTH.out _ _ _ o1.rds).mono ?_
      rintro e w' ⟨rfl, rfl⟩
      go_wp2_with fail
      go_ret2
      exact ⟨rfl, b1⟩
    · have h01 : (andI v (B : Int) == 0) = false := by simpa using h0
      clear hb hv h4 h0 h
      generalize andI v (B : Int) = m at *
      generalize (B : Int) = b at *
      go_enter Tryz.func31, Tryz.ntmps31
      go_wp2_with fail
      refine (HN.out _).mono ?_
      rintro e w' ⟨rfl, rfl⟩
      go_wp2_with fail
      refine (HV.out _).mono ?_
      rintro e w' ⟨rfl, rfl⟩
      go_wp2_with fail
      refine (HWT.out _).mono ?_
      rintro e w' ⟨rfl, rfl⟩
      go_wp2_with fail
      go_ret2
      exact ⟨rfl, Below.refl _ _⟩
  · have h41 : (wt v == 4) = false := by simpa using h4
    clear hb hv h4 h
    generalize wt v = t at *
    go_enter Tryz.func31, Tryz.ntmps31
    go_wp2_with fail
    refine (HN.out _).mono ?_
    rintro e w' ⟨rfl, rfl⟩
    go_wp2_with fail
    refine (HV.out _).mono ?_
    rintro e w' ⟨rfl, rfl⟩
    go_wp2_with fail
    refine (HWT.out _).mono ?_
    rintro e w' ⟨rfl, rfl⟩
    go_wp2_with fail
    go_ret2
    exact ⟨rfl, Below.refl _ _⟩
theorem sPlaneFour_calls (b v : Int) (w : World) :
    Calls Tryz.prog 31 #[.int .i64 b, .int .i64 v] w fun e w' => e = .returned (.tuple #[.int .i64 (plFour b v).1, .bool (plFour b v).2]) ∧ Below w.heap.size w w' := by
  rcases h : arcB b v 4 with _ | _
  · rw [arc_no4 h]; exact sPlaneFour_no b v w h
  · rw [arc_yes4 h]
    have hb : baseB b = true := by unfold arcB at h; simp only [Bool.and_eq_true] at h; exact h.1
    have hv : wordB v = true := by unfold arcB at h; simp only [Bool.and_eq_true] at h; exact h.2.1
    obtain ⟨B, rfl, hB⟩ := baseB_nat hb
    obtain ⟨v, rfl⟩ := Int.eq_ofNat_of_zero_le ((wordB_iff v).1 hv).1
    exact sPlaneFour_yes B v w hB h
set_option maxHeartbeats 2000000 in
theorem sPlaneSub_calls (b v : Int) (w : World) :
    Calls Tryz.prog 36 #[.int .i64 b, .int .i64 v] w fun e w' => e = .returned (.tuple #[.int .i64 (plSub b v).1, .bool (plSub b v).2]) ∧ Below w.heap.size w w' := by
  have HF := Lib.hid (sPlaneFour_calls b v w)
  rcases h : arcB b v 4 with _ | _
  · rw [show plSub b v = (0, false) by unfold plSub; rw [h]; rfl]
    rw [arc_no4 h] at HF
    clear h
    go_enter Tryz.func36, Tryz.ntmps36
    go_wp2_with fail
    refine HF.out.mono ?_
    rintro e w1 ⟨rfl, b1⟩
    go_wp2_with fail
    go_ret2
    exact ⟨rfl, b1⟩
  · rw [show plSub b v = (orI (fourI b v) v, true) by unfold plSub; rw [h]; rfl]
    rw [arc_yes4 h] at HF
    have hb : baseB b = true := by unfold arcB at h; simp only [Bool.and_eq_true] at h; exact h.1
    have hv : wordB v = true := by unfold arcB at h; simp only [Bool.and_eq_true] at h; exact h.2.1
    have wv : IsW v := (wordB_iff v).1 hv
    obtain ⟨B, rfl, hB⟩ := baseB_nat hb
    have wf := fourI_W hB v
    have hor : bits .or .i64 (fourI (B : Int) v) v = orI (fourI (B : Int) v) v := or_i64 _ _ wf.1 (by have := wf.2; omega) wv.1 (by have := wv.2; omega)
    dsimp only
    clear h hb hv wf wv
    dsimp only at HF
    generalize orI (fourI (B : Int) v) v = R at *
    generalize fourI (B : Int) v = F at *
    generalize (B : Int) = b at *
    go_enter Tryz.func36, Tryz.ntmps36
    go_wp2_with fail
    refine HF.out.mono ?_
    rintro e w1 ⟨rfl, b1⟩
    go_wp2_with fail
    go_ret2
    exact ⟨rfl, b1⟩
end Go.Proofs.YtmeejnkpaiinaacGreatDoor
/- Points of a plane, by the program: what is no point is an error, found by errors.As. -/
namespace Go.Proofs.YtmeejnkpaiinaacGreatDoor
open Go.RowKit
set_option linter.unusedVariables false
attribute [local irreducible] octS cN octF syn

theorem bpInfo : (Tryz.prog.info? 67).map (·.size) = some 22 := by kernel_rfl
set_option maxRecDepth 100000 in
set_option maxHeartbeats 2000000 in
theorem check_calls (V : Array Value) (B : Nat) (hB : B < 16777216) (hV : V.size = 22) (hb : V[21]? = some (.int .u32 (B : Int))) (A : Option Addr) (c : Nat) (xs : List Int) (w : World) (ha : Rds w w.heap.size .i64 A xs) (hx : xs.length ≤ maxLen) :
    Calls Tryz.prog 109 #[.agg V, .slice A xs.length c] w fun e w' => ∃ ev, e = .returned ev ∧ (((xs.all fun x => ptB (B : Int) x) = true ∧ ev = .nilIface) ∨ ((xs.all fun x => ptB (B : Int) x) = false ∧ ∃ n, ev = .iface 120 (.agg #[.int .i64 n]))) ∧ Below w.heap.size w w' := by
  have HY := Lib.hid (fun k (hk : k < xs.length) (h : ptB (B : Int) (xs.getD k 0) = false) => show (xs.all fun x => ptB (B : Int) x) = false by
    rw [List.all_eq_false]
    refine ⟨xs[k], List.getElem_mem hk, ?_⟩
    rw [getD_at _ k hk, h]
    exact Bool.false_ne_true)
  have HN := Lib.hid (fun (h : ∀ j, j < xs.length → ptB (B : Int) (xs.getD j 0) = true) => show (xs.all fun x => ptB (B : Int) x) = true by
    rw [List.all_eq_true]
    intro x hx
    obtain ⟨j, hj, rfl⟩ := List.getElem_of_mem hx
    rw [getD_at _ j hj]
    exact h j hj)
  generalize (xs.all fun x => ptB (B : Int) x) = cc at *
  have HCB := Lib.hid ((cell_of_row (w.alloc (.cells V 67)) w.heap.size 21 V 67 (0, 0) (heap_alloc_new w _)).trans hb)
  have HR := Lib.hid (ha.alloc (Nat.le_refl _) (.cells V 67))
  unfold maxLen at hx
  obtain ⟨n, hn⟩ : ∃ n, xs.length = n := ⟨_, rfl⟩
  rw [hn] at HY HN hx ⊢
  have HLEN := Lib.hid hn
  clear hn ha hb
  go_enter Tryz.func109, Tryz.ntmps109
  go_wp2_with fail
  go_loopw [9] (fun i wr => ∃ k : Nat, k ≤ n ∧ i = .int .i64 k ∧ Hid (wr = w.alloc (.cells V 67) ∧ ∀ j, j < k → ptB (B : Int) (xs.getD j 0) = true)) (fun i _ => n - (intOf i).toNat)
  case atStart => exact ⟨0, by omega, rfl, Lib.hid ⟨rfl, fun j h => absurd h (by omega)⟩⟩
  case round =>
    obtain ⟨k, hk, rfl, hh⟩ := hrel
    obtain ⟨hw, hnn⟩ := hh.out
    subst hw
    have hbel := Lib.hid ((Below.refl w.heap.size w).alloc (Nat.le_refl _) (.cells V 67))
    by_cases hlt : k < n
    · obtain ⟨bb, o, rfl, hb1, hc⟩ := HR.out.at_ (j := k) (by rw [HLEN.out]; exact hlt)
      have HY1 := Lib.hid (HY.out k hlt)
      have HN1 := Lib.hid (fun (h : ptB (B : Int) (xs.getD k 0) = true) j (hj : j < k + 1) => show ptB (B : Int) (xs.getD j 0) = true by
        rcases (by omega : j < k ∨ j = k) with h1 | h1
        · exact hnn j h1
        · rw [h1]; exact h)
      have hq1 : (0 : Int) ≤ (k : Int) := by omega
      have hq2 : (k : Int) < (n : Int) := by omega
      clear hnn hh
      generalize xs.getD k 0 = z at *
      have hcb := HCB.out
      by_cases hin : 0 ≤ z ∧ z ≤ 23
      · rw [ptB_in hin.1 hin.2] at HY1 HN1
        have HPV := Lib.hid (fun W => placeValid_ok z W hin.1 hin.2)
        have HHAS := Lib.hid (fun W => word_has (B : Int) z W (by omega) (by omega) hin.1 (by omega))
        clear hin
        rcases bitI_01 (B : Int) z with hbit | hbit
        · rw [hbit] at HY1 HN1 HHAS
          have HD := Lib.hid (HN1.out rfl)
          clear HN1 HY1 hbit
          go_wp2_with (first
            | (go_at_call 161; refine (HPV.out _).mono ?_; rintro e w' ⟨rfl, rfl⟩)
            | (go_at_call 162; refine (HHAS.out _).mono ?_; rintro e w' ⟨rfl, rfl⟩))
          go_roundw
          case rel => exact ⟨k + 1, by omega, by go_num, Lib.hid ⟨by first | exact rfl | trivial, fun j hj => (by have h := HD.out j hj; simpa using h)⟩⟩
          case measure => simp [intOf]; omega
        · rw [hbit] at HY1 HN1 HHAS
          have hcc := HY1.out rfl
          subst hcc
          clear HN1 HY1 hbit
          go_wp2_with (first
            | (go_at_call 161; refine (HPV.out _).mono ?_; rintro e w' ⟨rfl, rfl⟩)
            | (go_at_call 162; refine (HHAS.out _).mono ?_; rintro e w' ⟨rfl, rfl⟩))
          go_ret
          exact ⟨_, rfl, ⟨_, rfl⟩, hbel.out⟩
      · have hin2 : z < 0 ∨ 23 < z := by omega
        rw [ptB_no hin2] at HY1
        have hcc := HY1.out rfl
        subst hcc
        have HPV := Lib.hid (fun W => placeValid_no z W hin2)
        clear HN1 HY1 hin hin2
        go_wp2_with (go_at_call 161; refine (HPV.out _).mono ?_; rintro e w' ⟨rfl, rfl⟩)
        go_ret
        exact ⟨_, rfl, ⟨_, rfl⟩, hbel.out⟩
    · obtain rfl : k = n := by omega
      have hcc := HN.out hnn
      subst hcc
      clear hnn hh
      go_wp2_with fail
      go_ret
      exact ⟨_, rfl, rfl, hbel.out⟩
theorem npInfo : (Tryz.prog.info? 120).map (·.size) = some 1 := by kernel_rfl
theorem check_good (V : Array Value) (B : Nat) (hB : B < 16777216) (hV : V.size = 22) (hb : V[21]? = some (.int .u32 (B : Int))) (A : Option Addr) (c : Nat) (xs : List Int) (w : World) (ha : Rds w w.heap.size .i64 A xs) (hx : xs.length ≤ maxLen) (h : (xs.all fun x => ptB (B : Int) x) = true) :
    Calls Tryz.prog 109 #[.agg V, .slice A xs.length c] w fun e w' => e = .returned .nilIface ∧ Below w.heap.size w w' := by
  refine (check_calls V B hB hV hb A c xs w ha hx).mono ?_
  rintro e w' ⟨ev, rfl, h1 | h1, hb⟩
  · rw [h1.2]; exact ⟨rfl, hb⟩
  · rw [h] at h1; exact absurd h1.1 (by decide)
theorem check_bad (V : Array Value) (B : Nat) (hB : B < 16777216) (hV : V.size = 22) (hb : V[21]? = some (.int .u32 (B : Int))) (A : Option Addr) (c : Nat) (xs : List Int) (w : World) (ha : Rds w w.heap.size .i64 A xs) (hx : xs.length ≤ maxLen) (h : (xs.all fun x => ptB (B : Int) x) = false) :
    Calls Tryz.prog 109 #[.agg V, .slice A xs.length c] w fun e w' => ∃ n, e = .returned (.iface 120 (.agg #[.int .i64 n])) ∧ Below w.heap.size w w' := by
  refine (check_calls V B hB hV hb A c xs w ha hx).mono ?_
  rintro e w' ⟨ev, rfl, h1 | h1, hb⟩
  · rw [h] at h1; exact absurd h1.1 (by decide)
  · obtain ⟨n, h2⟩ := h1.2
    rw [h2]; exact ⟨n, rfl, hb⟩
set_option maxRecDepth 100000 in
set_option maxHeartbeats 2000000 in
theorem pointsFrom_good (V : Array Value) (B : Nat) (hB : B < 16777216) (hV : V.size = 22) (hb : V[21]? = some (.int .u32 (B : Int))) (A : Option Addr) (c : Nat) (xs : List Int) (cnt t : Int) (ok : Bool) (w : World) (ha : Rds w w.heap.size .i64 A xs) (hx : xs.length ≤ maxLen)
    (hall : (xs.all fun x => ptB (B : Int) x) = true) (hpf : ∀ W, Below w.heap.size w W → Calls Tryz.prog 71 #[.slice A xs.length c, .int .i64 cnt, .int .i64 cnt] W fun e w' => e = .returned (.tuple #[.int .u32 t, .bool ok]) ∧ W = w') :
    Calls Tryz.prog 54 #[.agg V, .slice A xs.length c, .int .i64 cnt] w fun e w' => e = .returned (.tuple #[.int .u32 t, .bool ok]) ∧ Below w.heap.size w w' := by
  have HC := Lib.hid (fun W (h : Below w.heap.size w W) => check_good V B hB hV hb A c xs W ((ha.below h).more h.size) hx hall)
  have HPF := Lib.hid hpf
  have HI := Lib.hid (show (Tryz.prog.info? 67).map (·.size) = some V.size by rw [hV]; exact bpInfo)
  have HB1 := Lib.hid ((((Below.refl w.heap.size w).alloc (Nat.le_refl _) (.cells V 67))).alloc (by simp) (.cells #[.int .i64 0] 120))
  clear ha hx hall hpf hb hV
  generalize xs.length = n at *
  go_enter Tryz.func54, Tryz.ntmps54
  go_wp2_with (first
    | (refine wpList_load_row rfl 67 _ rfl w.heap.size rfl 67 V (0, 0) _ (heap_alloc2_old w _ _) Tryz.underlying67 rfl HI.out ?_))
  refine (HC.out _ HB1.out).mono ?_
  rintro e w2 ⟨rfl, b2⟩
  have HB2 := Lib.hid (HB1.out.trans (b2.mono (by simp; omega)))
  clear b2
  go_wp2_with fail
  refine (as_nil _ _).mono ?_
  rintro e w' ⟨rfl, rfl⟩
  go_wp2_with fail
  refine (HPF.out _ HB2.out).mono ?_
  rintro e w' ⟨rfl, rfl⟩
  go_wp2_with fail
  go_ret2
  exact ⟨rfl, HB2.out⟩
set_option maxRecDepth 100000 in
set_option maxHeartbeats 2000000 in
theorem pointsFrom_bad (V : Array Value) (B : Nat) (hB : B < 16777216) (hV : V.size = 22) (hb : V[21]? = some (.int .u32 (B : Int))) (A : Option Addr) (c : Nat) (xs : List Int) (cnt : Int) (w : World) (ha : Rds w w.heap.size .i64 A xs) (hx : xs.length ≤ maxLen) (hT : TabE w)
    (hall : (xs.all fun x => ptB (B : Int) x) = false) :
    Calls Tryz.prog 54 #[.agg V, .slice A xs.length c, .int .i64 cnt] w fun e w' => e = .returned (.tuple #[.int .u32 0, .bool false]) ∧ Below w.heap.size w w' := by
  have HC := Lib.hid (fun W (h : Below w.heap.size w W) => check_bad V B hB hV hb A c xs W ((ha.below h).more h.size) hx hall)
  have HI := Lib.hid (show (Tryz.prog.info? 67).map (·.size) = some V.size by rw [hV]; exact bpInfo)
  have HB1 := Lib.hid ((((Below.refl w.heap.size w).alloc (Nat.le_refl _) (.cells V 67))).alloc (by simp) (.cells #[.int .i64 0] 120))
  have HG := Lib.hid (show ((w.alloc (.cells V 67)).alloc (.cells #[.int .i64 0] 120)).heap[w.heap.size + 1]? = some (.cells #[.int .i64 0] 120 (0, 0)) by
    have h := heap_alloc_new (w.alloc (.cells V 67)) (.cells #[.int .i64 0] 120)
    simpa using h)
  have HTE := Lib.hid hT
  have HTL := Lib.hid hT.lt
  clear ha hx hall hb hV hT
  generalize xs.length = n at *
  go_enter Tryz.func54, Tryz.ntmps54
  go_wp2_with (first
    | (refine wpList_load_row rfl 67 _ rfl w.heap.size rfl 67 V (0, 0) _ (heap_alloc2_old w _ _) Tryz.underlying67 rfl HI.out ?_))
  refine (HC.out _ HB1.out).mono ?_
  rintro e w2 ⟨n0, rfl, b2⟩
  have HB2 := Lib.hid (HB1.out.trans (b2.mono (by simp; omega)))
  have HG2 := Lib.hid ((b2.block (w.heap.size + 1) (by simp)).trans HG.out)
  have HAS := Lib.hid (as_hit_below n0 ⟨w.heap.size + 1, 0, none⟩ (.int .i64 0) w2 w.heap.size (HTE.out.below HB2.out HTL.out) (by rw [Lib.cell_of_heap HG2.out]; rfl) (Lib.frozen_of_heap HG2.out 0) (by simp) HB2.out.size)
  clear b2
  go_wp2_with fail
  refine HAS.out.mono ?_
  rintro e w3 ⟨rfl, b3⟩
  have HB3 := Lib.hid (HB2.out.trans b3)
  clear b3
  go_wp2_with fail
  go_ret2
  exact ⟨rfl, HB3.out⟩
theorem pts_yes (V : Array Value) (B : Nat) (hB : B < 16777216) (hV : V.size = 22) (hb : V[21]? = some (.int .u32 (B : Int))) (A : Option Addr) (c : Nat) (xs : List Int) (t : Int) (w : World) (ha : Rds w w.heap.size .i64 A xs) (hx : xs.length ≤ maxLen)
    (hall : (xs.all fun x => ptB (B : Int) x) = true) (ht : wof xs = some t) (t0 : 0 ≤ t) (t1 : t ≤ 16777215) :
    Calls Tryz.prog 54 #[.agg V, .slice A xs.length c, .int .i64 (xs.length : Int)] w fun e w' => e = .returned (.tuple #[.int .u32 t, .bool true]) ∧ Below w.heap.size w w' :=
  pointsFrom_good V B hB hV hb A c xs xs.length t true w ha hx hall fun W h => qFrom_yes A c xs _ _ t W ((ha.below h).more h.size) hx (Int.le_refl _) (Int.le_refl _) ht t0 t1
theorem pts_no (V : Array Value) (B : Nat) (hB : B < 16777216) (hV : V.size = 22) (hb : V[21]? = some (.int .u32 (B : Int))) (A : Option Addr) (c : Nat) (xs : List Int) (cnt : Int) (w : World) (ha : Rds w w.heap.size .i64 A xs) (hx : xs.length ≤ maxLen) (hT : TabE w)
    (hno : (xs.all fun x => ptB (B : Int) x) = false ∨ (xs.length : Int) ≠ cnt ∨ wof xs = none) :
    Calls Tryz.prog 54 #[.agg V, .slice A xs.length c, .int .i64 cnt] w fun e w' => e = .returned (.tuple #[.int .u32 0, .bool false]) ∧ Below w.heap.size w w' := by
  rcases hall : (xs.all fun x => ptB (B : Int) x) with _ | _
  · exact pointsFrom_bad V B hB hV hb A c xs cnt w ha hx hT hall
  · refine pointsFrom_good V B hB hV hb A c xs cnt 0 false w ha hx hall fun W h => qFrom_no A c xs _ _ W ((ha.below h).more h.size) hx ?_
    rcases hno with h1 | h1 | h1
    · rw [hall] at h1; exact absurd h1 (by decide)
    · omega
    · exact .inr (.inr h1)
end Go.Proofs.YtmeejnkpaiinaacGreatDoor
/- The program's PlaneLine and PlaneOn. -/
namespace Go.Proofs.YtmeejnkpaiinaacGreatDoor
open Go.RowKit
set_option linter.unusedVariables false
attribute [local irreducible] octS cN octF syn

theorem VP_last (L : List Int) (b : Int) (h : L.length = 21) : (VP L b)[21]? = some (.int .u32 b) := by
  unfold VP
  rw [Array.getElem?_append_right (by simp [h])]
  simp [h]
theorem rds_own {w : World} {B : Nat} {A : Option Addr} {n c : Nat} {xs : List Int} (h : Own w B (.slice A n c) xs) : n = xs.length := by
  obtain ⟨A', c', e⟩ := h.slice
  cases e; rfl
theorem two_line {B p q : Nat} (hB : IsBase B) (hp : p < 24) (hq : q < 24) (hpq : p ≠ q) (bp : B.testBit p = false) (bq : B.testBit q = false) : ((lns (B : Int)).filter (hasB ((2 ^ p ||| 2 ^ q : Nat) : Int))) = [thruI (lns (B : Int)) ((2 ^ p ||| 2 ^ q : Nat) : Int)] := by
  have h := two_count hB hp hq hpq bp bq
  unfold thruI
  match hL : ((lns (B : Int)).filter (hasB ((2 ^ p ||| 2 ^ q : Nat) : Int))), h with
  | [x], _ => rfl
theorem all_two (b p q : Int) : ([p, q].all fun x => ptB b x) = (ptB b p && ptB b q) := by simp
set_option maxRecDepth 100000 in
set_option maxHeartbeats 4000000 in
theorem iPlaneLine_calls (b p q : Int) (w : World) (hT : Tab2 w) (hE : TabE w) :
    Calls Tryz.prog 33 #[.int .i64 b, .int .i64 p, .int .i64 q] w fun e w' => e = .returned (.tuple #[.int .i64 (plLine b p q).1, .bool (plLine b p q).2]) ∧ Below w.heap.size w w' := by
  rcases hb : baseB b with _ | _
  · rw [show plLine b p q = (0, false) by simp [plLine, hb]]
    have HPF := Lib.hid (planeFrom_no b hb)
    have HZ := Lib.hid (VP_base 0)
    have HSZ0 := Lib.hid (VP_size (List.replicate 21 0) 0 (by simp))
    have HALL := Lib.hid (VP_all (List.replicate 21 0) 0)
    generalize VP (List.replicate 21 0) 0 = Z0 at *
    have HI := Lib.hid (show (Tryz.prog.info? 67).map (·.size) = some Z0.size by rw [HSZ0.out]; exact plInfo)
    clear hb hE
    go_enter Tryz.func33, Tryz.ntmps33
    go_wp2_with fail
    refine (HPF.out _).mono ?_
    rintro e w2 ⟨rfl, b2⟩
    go_wp2_with (refine wpList_store_row rfl 67 _ _ rfl w2.heap.size Z0 rfl rfl 67 _ (Blk.new w2 _ _) HI.out (by rw [HSZ0.out]; rfl) HALL.out ?_)
    go_ret2
    exact ⟨rfl, below_rowP (b2.alloc b2.size _) b2.size Z0⟩
  · obtain ⟨B, rfl, hB⟩ := baseB_nat hb
    have HPF := Lib.hid (planeFrom_yes B hB)
    have HSZ := Lib.hid (VP_size (lns (B : Int)) (B : Int) (lns_len hB))
    have HALL := Lib.hid (VP_all (lns (B : Int)) (B : Int))
    have HVP := Lib.hid (show VP (lns (B : Int)) (B : Int) = V21 (lns (B : Int)) ++ #[.int .u32 (B : Int)] from rfl)
    have HS21 := Lib.hid (show (Tryz.prog.info? 65).map (·.size) = some (V21 (lns (B : Int))).size by rw [V21_size, lns_len hB]; exact llInfo)
    have HLAST := Lib.hid (VP_last (lns (B : Int)) (B : Int) (lns_len hB))
    by_cases hyes : ptB (B : Int) p = true ∧ ptB (B : Int) q = true ∧ p ≠ q
    · rw [plLine_yes hb hyes.1 hyes.2.1 hyes.2.2]
      have h1 := hyes.1
      have h2 := hyes.2.1
      have h3 := hyes.2.2
      have hall : ([p, q].all fun x => ptB (B : Int) x) = true := by rw [all_two, h1, h2]; rfl
      obtain ⟨P, rfl, hp, bp⟩ := ptB_nat h1
      obtain ⟨Q, rfl, hq, bq⟩ := ptB_nat h2
      have hPQ : P ≠ Q := by omega
      have HPTS := Lib.hid (fun A c W ha => pts_yes _ B hB.1 HSZ.out HLAST.out A c [(P : Int), (Q : Int)] _ W ha (by unfold maxLen; simp) hall (wof_two P Q hp hq hPQ) (by omega) (by have := or_lt24 P Q hp hq; omega))
      have HTH := Lib.hid (fun W => through_calls (lns (B : Int)) (lns_len hB) (fun j hj => lns_W hB j hj) ((2 ^ P ||| 2 ^ Q : Nat) : Int) ⟨by omega, by have := or_lt24 P Q hp hq; omega⟩ W)
      rw [two_line hB hp hq hPQ bp bq, ← powI_or P Q hPQ] at HTH
      have HOR := Lib.hid (show powI (P : Int) + powI (Q : Int) = ((2 ^ P ||| 2 ^ Q : Nat) : Int) from powI_or P Q hPQ)
      rw [← powI_or P Q hPQ] at HPTS
      dsimp only
      clear hb hyes h1 h2 h3 hall HOR
      generalize thruI (lns (B : Int)) (powI (P : Int) + powI (Q : Int)) = R at *
      generalize powI (P : Int) + powI (Q : Int) = both at *
      generalize VP (lns (B : Int)) (B : Int) = T at *
      generalize V21 (lns (B : Int)) = VL at *
      have HI := Lib.hid (show (Tryz.prog.info? 67).map (·.size) = some T.size by rw [HSZ.out]; exact plInfo)
      go_enter Tryz.func33, Tryz.ntmps33
      go_wp2_with fail
      refine (HPF.out _ hT).mono ?_
      rintro e w2 ⟨rfl, b2⟩
      go_wp2_with (first
        | (refine wpList_store_row rfl 67 _ _ rfl w2.heap.size T rfl rfl 67 _ (Blk.new w2 _ _) HI.out (by rw [HSZ.out]; rfl) HALL.out ?_; have hcg := setRow_heap (w2.alloc (.cells #[.int .u32 0, .int .u32 0, .int .u32 0, .int .u32 0, .int .u32 0, .int .u32 0, .int .u32 0, .int .u32 0, .int .u32 0, .int .u32 0, .int .u32 0, .int .u32 0, .int .u32 0, .int .u32 0, .int .u32 0, .int .u32 0, .int .u32 0, .int .u32 0, .int .u32 0, .int .u32 0, .int .u32 0, .int .u32 0] 67)) w2.heap.size _ T 67 (0, 0) (Blk.new w2 _ _); have hb3 := below_rowP (b2.alloc b2.size (.cells #[.int .u32 0, .int .u32 0, .int .u32 0, .int .u32 0, .int .u32 0, .int .u32 0, .int .u32 0, .int .u32 0, .int .u32 0, .int .u32 0, .int .u32 0, .int .u32 0, .int .u32 0, .int .u32 0, .int .u32 0, .int .u32 0, .int .u32 0, .int .u32 0, .int .u32 0, .int .u32 0, .int .u32 0, .int .u32 0] 67)) b2.size T; generalize (w2.alloc (.cells #[.int .u32 0, .int .u32 0, .int .u32 0, .int .u32 0, .int .u32 0, .int .u32 0, .int .u32 0, .int .u32 0, .int .u32 0, .int .u32 0, .int .u32 0, .int .u32 0, .int .u32 0, .int .u32 0, .int .u32 0, .int .u32 0, .int .u32 0, .int .u32 0, .int .u32 0, .int .u32 0, .int .u32 0, .int .u32 0] 67)).setRow w2.heap.size T = w3 at *; have HCG := Lib.hid hcg; have HB3 := Lib.hid hb3; clear hcg hb3)
        | (refine wpList_load_row rfl 67 _ rfl w2.heap.size rfl 67 T (0, 0) _ HCG.out Tryz.underlying67 rfl HI.out ?_))
      refine (HPTS.out _ _ _ (own_two w3 (P : Int) (Q : Int)).rds).mono ?_
      rintro e w4 ⟨rfl, b4⟩
      have HB4 := Lib.hid ((HB3.out.alloc HB3.out.size (.cells #[.int .i64 (P : Int), .int .i64 (Q : Int)] 3)).trans (b4.mono (by have := HB3.out.size; simp; omega)))
      have hlt : w2.heap.size < w3.heap.size := by
        rcases Nat.lt_or_ge w2.heap.size w3.heap.size with h | h
        · exact h
        · have := HCG.out; rw [Array.getElem?_eq_none h] at this; cases this
      have hcg4 : w4.heap[w2.heap.size]? = some (.cells T 67 (0, 0)) := (b4.block _ (by simp; omega)).trans ((heap_alloc_old w3 _ hlt).trans HCG.out)
      have HCG4 := Lib.hid (hcg4.trans (show some (Obj.cells T 67 (0, 0)) = some (.cells (VL ++ #[.int .u32 (B : Int)]) 67 (0, 0)) by rw [HVP.out]))
      clear hcg4 hlt b4
      go_wp2_with (refine wpList_load_part rfl 65 _ rfl w2.heap.size rfl 67 VL #[.int .u32 (B : Int)] (0, 0) _ HCG4.out Tryz.underlying65 rfl HS21.out ?_)
      refine (HTH.out _).mono ?_
      rintro e w5 ⟨v, rfl, o1, b5⟩
      have HB5 := Lib.hid (HB4.out.trans (b5.mono HB4.out.size))
      obtain ⟨A1, c1, rfl⟩ := o1.slice
      obtain ⟨bb, o, rfl, hb1, hc⟩ := o1.rds.at_ (j := 0) (by simp)
      clear b5 o1
      simp only [List.getD_cons_zero, Nat.add_zero] at hc
      go_wp2_with fail
      go_ret2
      exact ⟨rfl, HB5.out⟩
    · rw [show plLine (B : Int) p q = (0, false) by
        unfold plLine
        rw [if_neg]
        intro h
        simp only [Bool.and_eq_true, decide_eq_true_eq] at h
        exact hyes ⟨h.2.1, h.2.2.1, h.2.2.2⟩]
      have hno : ([p, q].all fun x => ptB (B : Int) x) = false ∨ (([p, q].length : Nat) : Int) ≠ 2 ∨ wof [p, q] = none := by
        rw [all_two]
        rcases h1 : ptB (B : Int) p with _ | _
        · exact .inl rfl
        rcases h2 : ptB (B : Int) q with _ | _
        · exact .inl rfl
        refine .inr (.inr (wof_two_no p q fun h => hyes ⟨h1, h2, h.2.2⟩))
      have HPTS := Lib.hid (fun A c W ha hE => pts_no _ B hB.1 HSZ.out HLAST.out A c [p, q] 2 W ha (by unfold maxLen; simp) hE hno)
      have HEL := Lib.hid hE.lt
      have HE := Lib.hid hE
      clear hb hyes hno hE
      generalize VP (lns (B : Int)) (B : Int) = T at *
      generalize V21 (lns (B : Int)) = VL at *
      have HI := Lib.hid (show (Tryz.prog.info? 67).map (·.size) = some T.size by rw [HSZ.out]; exact plInfo)
      go_enter Tryz.func33, Tryz.ntmps33
      go_wp2_with fail
      refine (HPF.out _ hT).mono ?_
      rintro e w2 ⟨rfl, b2⟩
      go_wp2_with (first
        | (refine wpList_store_row rfl 67 _ _ rfl w2.heap.size T rfl rfl 67 _ (Blk.new w2 _ _) HI.out (by rw [HSZ.out]; rfl) HALL.out ?_; have hcg := setRow_heap (w2.alloc (.cells #[.int .u32 0, .int .u32 0, .int .u32 0, .int .u32 0, .int .u32 0, .int .u32 0, .int .u32 0, .int .u32 0, .int .u32 0, .int .u32 0, .int .u32 0, .int .u32 0, .int .u32 0, .int .u32 0, .int .u32 0, .int .u32 0, .int .u32 0, .int .u32 0, .int .u32 0, .int .u32 0, .int .u32 0, .int .u32 0] 67)) w2.heap.size _ T 67 (0, 0) (Blk.new w2 _ _); have hb3 := below_rowP (b2.alloc b2.size (.cells #[.int .u32 0, .int .u32 0, .int .u32 0, .int .u32 0, .int .u32 0, .int .u32 0, .int .u32 0, .int .u32 0, .int .u32 0, .int .u32 0, .int .u32 0, .int .u32 0, .int .u32 0, .int .u32 0, .int .u32 0, .int .u32 0, .int .u32 0, .int .u32 0, .int .u32 0, .int .u32 0, .int .u32 0, .int .u32 0] 67)) b2.size T; generalize (w2.alloc (.cells #[.int .u32 0, .int .u32 0, .int .u32 0, .int .u32 0, .int .u32 0, .int .u32 0, .int .u32 0, .int .u32 0, .int .u32 0, .int .u32 0, .int .u32 0, .int .u32 0, .int .u32 0, .int .u32 0, .int .u32 0, .int .u32 0, .int .u32 0, .int .u32 0, .int .u32 0, .int .u32 0, .int .u32 0, .int .u32 0] 67)).setRow w2.heap.size T = w3 at *; have HCG := Lib.hid hcg; have HB3 := Lib.hid hb3; clear hcg hb3)
        | (refine wpList_load_row rfl 67 _ rfl w2.heap.size rfl 67 T (0, 0) _ HCG.out Tryz.underlying67 rfl HI.out ?_))
      refine (HPTS.out _ _ _ (own_two w3 p q).rds (HE.out.below (HB3.out.alloc HB3.out.size (.cells #[.int .i64 p, .int .i64 q] 3)) HEL.out)).mono ?_
      rintro e w4 ⟨rfl, b4⟩
      have HB4 := Lib.hid ((HB3.out.alloc HB3.out.size (.cells #[.int .i64 p, .int .i64 q] 3)).trans (b4.mono (by have := HB3.out.size; simp; omega)))
      clear b4
      go_wp2_with fail
      go_ret2
      exact ⟨rfl, HB4.out⟩
theorem own_one (w : World) (p : Int) : Own (w.alloc (.cells #[.int .i64 p] 3)) w.heap.size (.slice (some ⟨w.heap.size, 0, none⟩) 1 1) [p] :=
  ⟨rfl, .inr ⟨w.heap.size, 1, _, rfl, Nat.le_refl _, heap_alloc_new w _, Nat.le_refl _, by unfold maxLen; omega, rfl, rfl⟩⟩
theorem wof_one (P : Nat) (hP : P < 24) : wof [(P : Int)] = some (powI (P : Int)) := by
  show addPl (some 0) (P : Int) = _
  have h0 : bitI 0 (P : Int) = 0 := by unfold bitI; simp
  rw [addPl_some, if_pos ⟨by omega, by omega, h0⟩]
  simp
set_option maxRecDepth 100000 in
set_option maxHeartbeats 4000000 in
theorem iPlaneOn_calls (b p : Int) (w : World) (hT : Tab2 w) (hE : TabE w) :
    Calls Tryz.prog 18 #[.int .i64 b, .int .i64 p] w (GotL w (plOn b p).1 (plOn b p).2) := by
  rcases hb : baseB b with _ | _
  · rw [show plOn b p = ([], false) by simp [plOn, hb]]
    have HPF := Lib.hid (planeFrom_no b hb)
    have HZ := Lib.hid (VP_base 0)
    have HSZ0 := Lib.hid (VP_size (List.replicate 21 0) 0 (by simp))
    have HALL := Lib.hid (VP_all (List.replicate 21 0) 0)
    generalize VP (List.replicate 21 0) 0 = Z0 at *
    have HI := Lib.hid (show (Tryz.prog.info? 67).map (·.size) = some Z0.size by rw [HSZ0.out]; exact plInfo)
    clear hb hE
    go_enter Tryz.func18, Tryz.ntmps18
    go_wp2_with fail
    refine (HPF.out _).mono ?_
    rintro e w2 ⟨rfl, b2⟩
    go_wp2_with (refine wpList_store_row rfl 67 _ _ rfl w2.heap.size Z0 rfl rfl 67 _ (Blk.new w2 _ _) HI.out (by rw [HSZ0.out]; rfl) HALL.out ?_)
    go_ret2
    exact ⟨_, rfl, Own.nil_ _ _, below_rowP (b2.alloc b2.size _) b2.size Z0⟩
  · obtain ⟨B, rfl, hB⟩ := baseB_nat hb
    have HPF := Lib.hid (planeFrom_yes B hB)
    have HSZ := Lib.hid (VP_size (lns (B : Int)) (B : Int) (lns_len hB))
    have HALL := Lib.hid (VP_all (lns (B : Int)) (B : Int))
    have HVP := Lib.hid (show VP (lns (B : Int)) (B : Int) = V21 (lns (B : Int)) ++ #[.int .u32 (B : Int)] from rfl)
    have HS21 := Lib.hid (show (Tryz.prog.info? 65).map (·.size) = some (V21 (lns (B : Int))).size by rw [V21_size, lns_len hB]; exact llInfo)
    have HLAST := Lib.hid (VP_last (lns (B : Int)) (B : Int) (lns_len hB))
    by_cases hyes : ptB (B : Int) p = true
    · rw [show plOn (B : Int) p = ((lns (B : Int)).filter (hasB (powI p)), true) by simp [plOn, hb, hyes]]
      have h1 := hyes
      have hall : ([p].all fun x => ptB (B : Int) x) = true := by simp [h1]
      obtain ⟨P, rfl, hp, bp⟩ := ptB_nat h1
      have HPTS := Lib.hid (fun A c W ha => pts_yes _ B hB.1 HSZ.out HLAST.out A c [(P : Int)] _ W ha (by unfold maxLen; simp) hall (wof_one P hp) (by have := powI_pos (P : Int); omega) (by have := powI_le (P : Int) (by omega) (by omega); omega))
      have HTH := Lib.hid (fun W => through_calls (lns (B : Int)) (lns_len hB) (fun j hj => lns_W hB j hj) (powI (P : Int)) ⟨by have := powI_pos (P : Int); omega, by have := powI_le (P : Int) (by omega) (by omega); omega⟩ W)
      dsimp only
      clear hb hyes h1 hall
      generalize (lns (B : Int)).filter (hasB (powI (P : Int))) = R at *
      generalize powI (P : Int) = both at *
      generalize VP (lns (B : Int)) (B : Int) = T at *
      generalize V21 (lns (B : Int)) = VL at *
      have HI := Lib.hid (show (Tryz.prog.info? 67).map (·.size) = some T.size by rw [HSZ.out]; exact plInfo)
      go_enter Tryz.func18, Tryz.ntmps18
      go_wp2_with fail
      refine (HPF.out _ hT).mono ?_
      rintro e w2 ⟨rfl, b2⟩
      go_wp2_with (first
        | (refine wpList_store_row rfl 67 _ _ rfl w2.heap.size T rfl rfl 67 _ (Blk.new w2 _ _) HI.out (by rw [HSZ.out]; rfl) HALL.out ?_; have hcg := setRow_heap (w2.alloc (.cells #[.int .u32 0, .int .u32 0, .int .u32 0, .int .u32 0, .int .u32 0, .int .u32 0, .int .u32 0, .int .u32 0, .int .u32 0, .int .u32 0, .int .u32 0, .int .u32 0, .int .u32 0, .int .u32 0, .int .u32 0, .int .u32 0, .int .u32 0, .int .u32 0, .int .u32 0, .int .u32 0, .int .u32 0, .int .u32 0] 67)) w2.heap.size _ T 67 (0, 0) (Blk.new w2 _ _); have hb3 := below_rowP (b2.alloc b2.size (.cells #[.int .u32 0, .int .u32 0, .int .u32 0, .int .u32 0, .int .u32 0, .int .u32 0, .int .u32 0, .int .u32 0, .int .u32 0, .int .u32 0, .int .u32 0, .int .u32 0, .int .u32 0, .int .u32 0, .int .u32 0, .int .u32 0, .int .u32 0, .int .u32 0, .int .u32 0, .int .u32 0, .int .u32 0, .int .u32 0] 67)) b2.size T; generalize (w2.alloc (.cells #[.int .u32 0, .int .u32 0, .int .u32 0, .int .u32 0, .int .u32 0, .int .u32 0, .int .u32 0, .int .u32 0, .int .u32 0, .int .u32 0, .int .u32 0, .int .u32 0, .int .u32 0, .int .u32 0, .int .u32 0, .int .u32 0, .int .u32 0, .int .u32 0, .int .u32 0, .int .u32 0, .int .u32 0, .int .u32 0] 67)).setRow w2.heap.size T = w3 at *; have HCG := Lib.hid hcg; have HB3 := Lib.hid hb3; clear hcg hb3)
        | (refine wpList_load_row rfl 67 _ rfl w2.heap.size rfl 67 T (0, 0) _ HCG.out Tryz.underlying67 rfl HI.out ?_))
      refine (HPTS.out _ _ _ (own_one w3 (P : Int)).rds).mono ?_
      rintro e w4 ⟨rfl, b4⟩
      have HB4 := Lib.hid ((HB3.out.alloc HB3.out.size (.cells #[.int .i64 (P : Int)] 3)).trans (b4.mono (by have := HB3.out.size; simp; omega)))
      have hlt : w2.heap.size < w3.heap.size := by
        rcases Nat.lt_or_ge w2.heap.size w3.heap.size with h | h
        · exact h
        · have := HCG.out; rw [Array.getElem?_eq_none h] at this; cases this
      have hcg4 : w4.heap[w2.heap.size]? = some (.cells T 67 (0, 0)) := (b4.block _ (by simp; omega)).trans ((heap_alloc_old w3 _ hlt).trans HCG.out)
      have HCG4 := Lib.hid (hcg4.trans (show some (Obj.cells T 67 (0, 0)) = some (.cells (VL ++ #[.int .u32 (B : Int)]) 67 (0, 0)) by rw [HVP.out]))
      clear hcg4 hlt b4
      go_wp2_with (refine wpList_load_part rfl 65 _ rfl w2.heap.size rfl 67 VL #[.int .u32 (B : Int)] (0, 0) _ HCG4.out Tryz.underlying65 rfl HS21.out ?_)
      refine (HTH.out _).mono ?_
      rintro e w5 ⟨v, rfl, o1, b5⟩
      have HB5 := Lib.hid (HB4.out.trans (b5.mono HB4.out.size))
      have HO5 := Lib.hid (o1.weak HB4.out.size)
      clear b5 o1
      go_wp2_with fail
      go_ret2
      exact ⟨_, rfl, HO5.out, HB5.out⟩
    · rw [show plOn (B : Int) p = ([], false) by simp [plOn, hyes]]
      have hno : ([p].all fun x => ptB (B : Int) x) = false ∨ (([p].length : Nat) : Int) ≠ 1 ∨ wof [p] = none := by
        left
        rcases h1 : ptB (B : Int) p with _ | _
        · simp [h1]
        · exact absurd h1 hyes
      have HPTS := Lib.hid (fun A c W ha hE => pts_no _ B hB.1 HSZ.out HLAST.out A c [p] 1 W ha (by unfold maxLen; simp) hE hno)
      have HEL := Lib.hid hE.lt
      have HE := Lib.hid hE
      clear hb hyes hno hE
      generalize VP (lns (B : Int)) (B : Int) = T at *
      generalize V21 (lns (B : Int)) = VL at *
      have HI := Lib.hid (show (Tryz.prog.info? 67).map (·.size) = some T.size by rw [HSZ.out]; exact plInfo)
      go_enter Tryz.func18, Tryz.ntmps18
      go_wp2_with fail
      refine (HPF.out _ hT).mono ?_
      rintro e w2 ⟨rfl, b2⟩
      go_wp2_with (first
        | (refine wpList_store_row rfl 67 _ _ rfl w2.heap.size T rfl rfl 67 _ (Blk.new w2 _ _) HI.out (by rw [HSZ.out]; rfl) HALL.out ?_; have hcg := setRow_heap (w2.alloc (.cells #[.int .u32 0, .int .u32 0, .int .u32 0, .int .u32 0, .int .u32 0, .int .u32 0, .int .u32 0, .int .u32 0, .int .u32 0, .int .u32 0, .int .u32 0, .int .u32 0, .int .u32 0, .int .u32 0, .int .u32 0, .int .u32 0, .int .u32 0, .int .u32 0, .int .u32 0, .int .u32 0, .int .u32 0, .int .u32 0] 67)) w2.heap.size _ T 67 (0, 0) (Blk.new w2 _ _); have hb3 := below_rowP (b2.alloc b2.size (.cells #[.int .u32 0, .int .u32 0, .int .u32 0, .int .u32 0, .int .u32 0, .int .u32 0, .int .u32 0, .int .u32 0, .int .u32 0, .int .u32 0, .int .u32 0, .int .u32 0, .int .u32 0, .int .u32 0, .int .u32 0, .int .u32 0, .int .u32 0, .int .u32 0, .int .u32 0, .int .u32 0, .int .u32 0, .int .u32 0] 67)) b2.size T; generalize (w2.alloc (.cells #[.int .u32 0, .int .u32 0, .int .u32 0, .int .u32 0, .int .u32 0, .int .u32 0, .int .u32 0, .int .u32 0, .int .u32 0, .int .u32 0, .int .u32 0, .int .u32 0, .int .u32 0, .int .u32 0, .int .u32 0, .int .u32 0, .int .u32 0, .int .u32 0, .int .u32 0, .int .u32 0, .int .u32 0, .int .u32 0] 67)).setRow w2.heap.size T = w3 at *; have HCG := Lib.hid hcg; have HB3 := Lib.hid hb3; clear hcg hb3)
        | (refine wpList_load_row rfl 67 _ rfl w2.heap.size rfl 67 T (0, 0) _ HCG.out Tryz.underlying67 rfl HI.out ?_))
      refine (HPTS.out _ _ _ (own_one w3 p).rds (HE.out.below (HB3.out.alloc HB3.out.size (.cells #[.int .i64 p] 3)) HEL.out)).mono ?_
      rintro e w4 ⟨rfl, b4⟩
      have HB4 := Lib.hid ((HB3.out.alloc HB3.out.size (.cells #[.int .i64 p] 3)).trans (b4.mono (by have := HB3.out.size; simp; omega)))
      clear b4
      go_wp2_with fail
      go_ret2
      exact ⟨_, rfl, Own.nil_ _ _, HB4.out⟩
end Go.Proofs.YtmeejnkpaiinaacGreatDoor
/- Arcs of the program: isArc, arcFrom, PlaneOval. -/
namespace Go.Proofs.YtmeejnkpaiinaacGreatDoor
open Go.RowKit
set_option linter.unusedVariables false
attribute [local irreducible] octS cN octF syn

/-- The points of a word are all points of the plane when the word keeps off the base. -/
theorem all_pts {B w : Nat} (hw : w < 16777216) : ((plI w).all fun x => ptB (B : Int) x) = decide (andI (w : Int) (B : Int) = 0) := by
  have e : ∀ q : Nat, q < 24 → (ptB (B : Int) (q : Int) = true ↔ B.testBit q = false) := fun q hq => by
    rw [ptB_in (by omega) (by omega), bitI_nat]
    cases B.testBit q <;> simp
  rw [Bool.eq_iff_iff, List.all_eq_true, decide_eq_true_eq, andI_nat]
  constructor
  · intro h
    have : w &&& B = 0 := Nat.eq_of_testBit_eq fun i => by
      rw [Nat.testBit_and, Nat.zero_testBit]
      rcases hb : w.testBit i with _ | _
      · rfl
      · have hi : i < 24 := by
          rcases Nat.lt_or_ge i 24 with h1 | h1
          · exact h1
          · have : w < 2 ^ i := Nat.lt_of_lt_of_le (show w < 2 ^ 24 by omega) (Nat.pow_le_pow_right (by omega) h1)
            rw [Nat.testBit_lt_two_pow this] at hb; exact absurd hb (by decide)
        have hm : (i : Int) ∈ plI w := List.mem_map.2 ⟨i, (pl_mem w i).2 ⟨hi, hb⟩, rfl⟩
        rw [(e i hi).1 (h _ hm)]; rfl
    rw [this]; rfl
  · intro h x hx
    obtain ⟨q, hq, rfl⟩ := List.mem_map.1 hx
    obtain ⟨hq24, hqb⟩ := (pl_mem w q).1 hq
    have h0 : w &&& B = 0 := by omega
    have := congrArg (fun z => z.testBit q) h0
    simp only [Nat.testBit_and, Nat.zero_testBit, hqb, Bool.true_and] at this
    exact (e q hq24).2 this
set_option maxRecDepth 100000 in
set_option maxHeartbeats 2000000 in
theorem isArc_calls (L : List Int) (hl : L.length = 21) (hw : ∀ j, j < 21 → IsW (L.getD j 0)) (T : Int) (hT : IsW T) (w : World) :
    Calls Tryz.prog 111 #[.agg (V21 L), .int .u32 T] w fun e w' => e = .returned (.bool (L.all fun x => decide (wt (andI x T) ≤ 2))) ∧ Below w.heap.size w w' := by
  have HI := Lib.hid (show (Tryz.prog.info? 65).map (·.size) = some (V21 L).size by rw [V21_size, hl]; exact llInfo)
  have HIDX := Lib.hid (fun k hk W => idx21 L hl k hk W)
  have HWL := Lib.hid hw
  have HY := Lib.hid (fun k (hk : k < 21) (h : ¬ wt (andI (L.getD k 0) T) ≤ 2) => show (L.all fun x => decide (wt (andI x T) ≤ 2)) = false by
    rw [List.all_eq_false]
    refine ⟨L[k], List.getElem_mem (by omega), ?_⟩
    rw [getD_at _ k (by omega)]
    simpa using h)
  have HN := Lib.hid (fun (h : ∀ j, j < 21 → wt (andI (L.getD j 0) T) ≤ 2) => show (L.all fun x => decide (wt (andI x T) ≤ 2)) = true by
    rw [List.all_eq_true]
    intro x hx
    obtain ⟨j, hj, rfl⟩ := List.getElem_of_mem hx
    have := h j (by omega)
    rw [getD_at _ j hj]
    simpa using this)
  have HAW := Lib.hid (fun j (hj : j < 21) => show IsW (andI (L.getD j 0) T) from ⟨andI_nonneg _ _, andI_le _ _ hT.2⟩)
  generalize (L.all fun x => decide (wt (andI x T) ≤ 2)) = cc at *
  clear hw hl
  generalize hV : V21 L = V at *
  clear hV
  go_enter Tryz.func111, Tryz.ntmps111
  go_wp2_with (first
    | (refine wpList_load_row rfl 65 _ rfl w.heap.size rfl 65 V (0, 0) _ (Blk.new w _ _) Tryz.underlying65 rfl HI.out ?_))
  go_loopw [8] (fun i wr => ∃ k : Nat, k ≤ 21 ∧ i = .int .i64 k ∧ Hid (Below w.heap.size w wr ∧ ∀ j, j < k → wt (andI (L.getD j 0) T) ≤ 2)) (fun i _ => 21 - (intOf i).toNat)
  case atStart => exact ⟨0, by omega, rfl, Lib.hid ⟨(Below.refl _ w).alloc (Nat.le_refl _) _, fun j h => absurd h (by omega)⟩⟩
  case round =>
    obtain ⟨k, hk, rfl, hh⟩ := hrel
    obtain ⟨hb, hnn⟩ := hh.out
    have HB := Lib.hid hb
    by_cases hlt : k < 21
    · have hidx := HIDX.out k hlt
      have wx := HWL.out k hlt
      have wm := HAW.out k hlt
      have HY1 := Lib.hid (HY.out k hlt)
      have HN1 := Lib.hid (fun (h : wt (andI (L.getD k 0) T) ≤ 2) j (hj : j < k + 1) => show wt (andI (L.getD j 0) T) ≤ 2 by
        rcases (by omega : j < k ∨ j = k) with h1 | h1
        · exact hnn j h1
        · rw [h1]; exact h)
      have hq1 : (0 : Int) ≤ (k : Int) := by omega
      have hq2 : (k : Int) < 21 := by omega
      clear hnn hh hb
      generalize L.getD k 0 = z at *
      have HMT := Lib.hid (fun W => word_meet z T W wx.1 wx.2 hT.1 hT.2)
      generalize andI z T = m at *
      have HWT := Lib.hid (fun W => word_weight m W wm.1 wm.2)
      by_cases hx : wt m ≤ 2
      · have HD := Lib.hid (HN1.out hx)
        clear HN1 HY1
        generalize wt m = t at *
        go_wp2_with fail
        refine (HMT.out _).mono ?_
        rintro e w' ⟨rfl, rfl⟩
        go_wp2_with fail
        refine (HWT.out _).mono ?_
        rintro e w' ⟨rfl, kq, rfl⟩
        go_wp2_with fail
        go_roundw
        case rel => exact ⟨k + 1, by omega, by go_num, Lib.hid ⟨below_drewN HB.out _, HD.out⟩⟩
        case measure => simp [intOf]; omega
      · have hcc := HY1.out (by omega)
        subst hcc
        clear HN1 HY1
        have hx2 : 2 < wt m := by omega
        generalize wt m = t at *
        go_wp2_with fail
        refine (HMT.out _).mono ?_
        rintro e w' ⟨rfl, rfl⟩
        go_wp2_with fail
        refine (HWT.out _).mono ?_
        rintro e w' ⟨rfl, kq, rfl⟩
        go_wp2_with fail
        go_ret
        exact ⟨rfl, below_drewN HB.out _⟩
    · obtain rfl : k = 21 := by omega
      have hcc := HN.out hnn
      subst hcc
      clear hnn hh hb
      go_wp2_with fail
      go_ret
      exact ⟨rfl, HB.out⟩
theorem wpList_load_partW {P : Program} {ops : Array Oper} {rest : List Oper} {o : Oper} {a : Act} {w : World} {Q : Exit → Act → World → Prop} (hwd : Region.wanted o (yielded ops a.tmps) = true) (ty : TypeId) (x : Operand) (ho : o.op = .load ty x)
    (g : Nat) (hx : a.eval x = .pointer (some ⟨g, 0, none⟩)) (t : TypeId) (A R : Array Value) (fr : Nat × Nat) (d : TypeDesc) (hg : w.heap[g]? = some (.cells (A ++ R) t fr))
    (hu : P.underlying ty = some d) (hd : (match d with | .struct _ | .array _ _ => true | _ => false) = true) (hi : (P.info? ty).map (·.size) = some A.size)
    (h : wpList P ops Q rest (a.put o.dst (.agg A)) w) : wpList P ops Q (o :: rest) a w :=
  wpList_step fun K hK => by
    simp only [hwd, if_true]
    have hk := hK _ _ h
    unfold Oper.wp execOp
    simp only [ho, hx, Instr.loadAt, Instr.sureAddr, Sem.run_bind, Sem.run_pure, Result.andThen_ok, run_loadVar_part w g t ty A R fr d hg hu hd hi]
    exact hk
theorem results_ctt {P : Program} {fn : Func} {tmps : Array Value} {w : World} {p q r g : Nat} {ty t : TypeId} {cs : Array Value} {v v2 : Value} {d : TypeDesc} (h : fn.results = #[.cell p ty, .tmp q, .tmp r]) (hp : tmps.getD p undef = .pointer (some ⟨g, 0, none⟩)) (hq : tmps.getD q undef = v) (hr : tmps.getD r undef = v2) (hg : Blk w g t cs)
    (hu : P.underlying ty = some d) (hd : (match d with | .struct _ | .array _ _ => true | _ => false) = true) (hi : (P.info? ty).map (·.size) = some cs.size) :
    (results fn tmps).run P w = .ok (.tuple #[.agg cs, v, v2]) w := by
  have hp' : tmps[p]?.getD undef = .pointer (some ⟨g, 0, none⟩) := by simpa using hp
  have hq' : tmps[q]?.getD undef = v := by simpa using hq
  have hr' : tmps[r]?.getD undef = v2 := by simpa using hr
  simp [results, h, hp', hq', hr', asAddr, run_loadVar_row w g t ty cs (0, 0) d hg hu hd hi]
theorem arc_parts {b v n : Int} (h : arcB b v n = true) : baseB b = true ∧ wordB v = true ∧ wt v = n ∧ andI v b = 0 ∧ thinB b v = true := by
  unfold arcB at h
  simp only [Bool.and_eq_true, decide_eq_true_eq] at h
  exact ⟨h.1, h.2.1, h.2.2.1, h.2.2.2.1, h.2.2.2.2⟩
set_option maxRecDepth 100000 in
set_option maxHeartbeats 4000000 in
theorem arcFrom_yes (B : Nat) (v n : Int) (w : World) (hT : Tab3E w) (hB : IsBase B) (h : arcB (B : Int) v n = true) :
    Calls Tryz.prog 64 #[.int .i64 (B : Int), .int .i64 v, .int .i64 n] w fun e w' => e = .returned (.tuple #[.agg (VP (lns (B : Int)) (B : Int)), .int .u32 v, .bool true]) ∧ Below w.heap.size w w' := by
  obtain ⟨_, hv, hn, h0, hth⟩ := arc_parts h
  have wv : IsW v := (wordB_iff v).1 hv
  obtain ⟨v', rfl⟩ := Int.eq_ofNat_of_zero_le wv.1
  have hw : v' < 16777216 := by have := wv.2; omega
  have hall : ((plI v').all fun x => ptB (B : Int) x) = true := by rw [all_pts hw, h0]; rfl
  have hlen : ((plI v').length : Int) = n := by have := wt_plI (v' : Int) (by omega); simpa [hn] using this
  have hwof : wof (plI v') = some (v' : Int) := wof_plI (v' : Int) wv
  have HPF := Lib.hid (planeFrom_yes B hB)
  have HWP := Lib.hid (fun W (hT : TabB W) => iWordPlaces_ok (v' : Int) W wv hT)
  rw [Int.toNat_natCast] at HWP
  have HSZ := Lib.hid (VP_size (lns (B : Int)) (B : Int) (lns_len hB))
  have HALL := Lib.hid (VP_all (lns (B : Int)) (B : Int))
  have HVP := Lib.hid (show VP (lns (B : Int)) (B : Int) = V21 (lns (B : Int)) ++ #[.int .u32 (B : Int)] from rfl)
  have HS21 := Lib.hid (show (Tryz.prog.info? 65).map (·.size) = some (V21 (lns (B : Int))).size by rw [V21_size, lns_len hB]; exact llInfo)
  have HLAST := Lib.hid (VP_last (lns (B : Int)) (B : Int) (lns_len hB))
  have hmax : (plI v').length ≤ maxLen := by
    have := pl_len v'
    unfold plI maxLen
    rw [List.length_map]; omega
  have HPTS := Lib.hid (fun A c W ha => pts_yes _ B hB.1 HSZ.out HLAST.out A c (plI v') _ W ha hmax hall hwof wv.1 wv.2)
  rw [hlen] at HPTS
  have HARC := Lib.hid (fun W => isArc_calls (lns (B : Int)) (lns_len hB) (fun j hj => lns_W hB j hj) (v' : Int) wv W)
  rw [show ((lns (B : Int)).all fun x => decide (wt (andI x (v' : Int)) ≤ 2)) = true from hth] at HARC
  clear h hv hn h0 hth hall hwof hlen hmax
  generalize plI v' = L at *
  generalize VP (lns (B : Int)) (B : Int) = T at *
  generalize V21 (lns (B : Int)) = VL at *
  generalize (v' : Int) = v at *
  have HI := Lib.hid (show (Tryz.prog.info? 67).map (·.size) = some T.size by rw [HSZ.out]; exact plInfo)
  have HT := Lib.hid hT
  have HTL := Lib.hid hT.lt
  clear hT
  go_enter Tryz.func64, Tryz.ntmps64
  go_wp2_with fail
  have HBL1 := Lib.hid ((Below.refl w.heap.size w).alloc (Nat.le_refl _) (.cells #[.int .u32 0, .int .u32 0, .int .u32 0, .int .u32 0, .int .u32 0, .int .u32 0, .int .u32 0, .int .u32 0, .int .u32 0, .int .u32 0, .int .u32 0, .int .u32 0, .int .u32 0, .int .u32 0, .int .u32 0, .int .u32 0, .int .u32 0, .int .u32 0, .int .u32 0, .int .u32 0, .int .u32 0, .int .u32 0] 67))
  have HG1 := Lib.hid (show (w.alloc (.cells #[.int .u32 0, .int .u32 0, .int .u32 0, .int .u32 0, .int .u32 0, .int .u32 0, .int .u32 0, .int .u32 0, .int .u32 0, .int .u32 0, .int .u32 0, .int .u32 0, .int .u32 0, .int .u32 0, .int .u32 0, .int .u32 0, .int .u32 0, .int .u32 0, .int .u32 0, .int .u32 0, .int .u32 0, .int .u32 0] 67)).heap[w.heap.size]? = some (.cells #[.int .u32 0, .int .u32 0, .int .u32 0, .int .u32 0, .int .u32 0, .int .u32 0, .int .u32 0, .int .u32 0, .int .u32 0, .int .u32 0, .int .u32 0, .int .u32 0, .int .u32 0, .int .u32 0, .int .u32 0, .int .u32 0, .int .u32 0, .int .u32 0, .int .u32 0, .int .u32 0, .int .u32 0, .int .u32 0] 67 (0, 0)) from Blk.new w _ _)
  have hlt1 : w.heap.size < (w.alloc (.cells #[.int .u32 0, .int .u32 0, .int .u32 0, .int .u32 0, .int .u32 0, .int .u32 0, .int .u32 0, .int .u32 0, .int .u32 0, .int .u32 0, .int .u32 0, .int .u32 0, .int .u32 0, .int .u32 0, .int .u32 0, .int .u32 0, .int .u32 0, .int .u32 0, .int .u32 0, .int .u32 0, .int .u32 0, .int .u32 0] 67)).heap.size := by simp
  generalize w.alloc (.cells #[.int .u32 0, .int .u32 0, .int .u32 0, .int .u32 0, .int .u32 0, .int .u32 0, .int .u32 0, .int .u32 0, .int .u32 0, .int .u32 0, .int .u32 0, .int .u32 0, .int .u32 0, .int .u32 0, .int .u32 0, .int .u32 0, .int .u32 0, .int .u32 0, .int .u32 0, .int .u32 0, .int .u32 0, .int .u32 0] 67) = W1 at *
  refine (HPF.out _ (HT.out.two.below HBL1.out HT.out.two.lt)).mono ?_
  rintro e w2 ⟨rfl, b2⟩
  have HG2 := Lib.hid ((b2.block _ hlt1).trans HG1.out)
  have B2 := HBL1.out.trans (b2.mono HBL1.out.size)
  have hlt2 : w.heap.size < w2.heap.size := Nat.lt_of_lt_of_le hlt1 b2.size
  clear b2 hlt1
  go_wp2_with (first
    | (refine wpList_store_row rfl 67 _ _ rfl w2.heap.size T rfl rfl 67 _ (Blk.new w2 _ _) HI.out (by rw [HSZ.out]; rfl) HALL.out ?_; have hcg := setRow_heap (w2.alloc (.cells #[.int .u32 0, .int .u32 0, .int .u32 0, .int .u32 0, .int .u32 0, .int .u32 0, .int .u32 0, .int .u32 0, .int .u32 0, .int .u32 0, .int .u32 0, .int .u32 0, .int .u32 0, .int .u32 0, .int .u32 0, .int .u32 0, .int .u32 0, .int .u32 0, .int .u32 0, .int .u32 0, .int .u32 0, .int .u32 0] 67)) w2.heap.size _ T 67 (0, 0) (Blk.new w2 _ _); have hb3 := below_rowP (B2.alloc B2.size (.cells #[.int .u32 0, .int .u32 0, .int .u32 0, .int .u32 0, .int .u32 0, .int .u32 0, .int .u32 0, .int .u32 0, .int .u32 0, .int .u32 0, .int .u32 0, .int .u32 0, .int .u32 0, .int .u32 0, .int .u32 0, .int .u32 0, .int .u32 0, .int .u32 0, .int .u32 0, .int .u32 0, .int .u32 0, .int .u32 0] 67)) B2.size T; have hg3 := (setRow_other (w2.alloc (.cells #[.int .u32 0, .int .u32 0, .int .u32 0, .int .u32 0, .int .u32 0, .int .u32 0, .int .u32 0, .int .u32 0, .int .u32 0, .int .u32 0, .int .u32 0, .int .u32 0, .int .u32 0, .int .u32 0, .int .u32 0, .int .u32 0, .int .u32 0, .int .u32 0, .int .u32 0, .int .u32 0, .int .u32 0, .int .u32 0] 67)) w2.heap.size w.heap.size T (by omega)).trans ((heap_alloc_old w2 (.cells #[.int .u32 0, .int .u32 0, .int .u32 0, .int .u32 0, .int .u32 0, .int .u32 0, .int .u32 0, .int .u32 0, .int .u32 0, .int .u32 0, .int .u32 0, .int .u32 0, .int .u32 0, .int .u32 0, .int .u32 0, .int .u32 0, .int .u32 0, .int .u32 0, .int .u32 0, .int .u32 0, .int .u32 0, .int .u32 0] 67) hlt2).trans HG2.out); generalize (w2.alloc (.cells #[.int .u32 0, .int .u32 0, .int .u32 0, .int .u32 0, .int .u32 0, .int .u32 0, .int .u32 0, .int .u32 0, .int .u32 0, .int .u32 0, .int .u32 0, .int .u32 0, .int .u32 0, .int .u32 0, .int .u32 0, .int .u32 0, .int .u32 0, .int .u32 0, .int .u32 0, .int .u32 0, .int .u32 0, .int .u32 0] 67)).setRow w2.heap.size T = w3 at *; have HG3 := Lib.hid hg3; have HCG := Lib.hid hcg; have HB3 := Lib.hid hb3; clear hcg hb3 hg3))
  have hlt3 : w2.heap.size < w3.heap.size := by
    rcases Nat.lt_or_ge w2.heap.size w3.heap.size with h | h
    · exact h
    · have := HCG.out; rw [Array.getElem?_eq_none h] at this; cases this
  refine (HWP.out _ (HT.out.1.below HB3.out (show _ < _ from Nat.lt_of_le_of_lt (by first | exact Nat.le_refl _ | decide | (unfold tab3EG tab3G; omega)) HTL.out))).mono ?_
  rintro e w4 ⟨lv, rfl, o4, b4⟩
  obtain ⟨A4, c4, rfl⟩ := o4.slice
  have hlt0 : w.heap.size < w3.heap.size := by omega
  have B4 := HB3.out.trans (b4.mono HB3.out.size)
  have HCG4 := Lib.hid ((b4.block _ hlt3).trans HCG.out)
  have HG4 := Lib.hid ((b4.block _ hlt0).trans HG3.out)
  have HB4 := Lib.hid B4
  have hlt4 : w2.heap.size < w4.heap.size := Nat.lt_of_lt_of_le hlt3 b4.size
  have hlt40 : w.heap.size < w4.heap.size := Nat.lt_of_lt_of_le hlt0 b4.size
  have HPC := Lib.hid (HPTS.out A4 c4 w4 o4.rds)
  clear b4 B4 o4
  go_wp2_with (first
    | (refine wpList_load_row rfl 67 _ rfl w2.heap.size rfl 67 T (0, 0) _ HCG4.out Tryz.underlying67 rfl HI.out ?_))
  refine HPC.out.mono ?_
  rintro e w5 ⟨rfl, b5⟩
  have HCG5 := Lib.hid (((b5.block _ hlt4).trans HCG4.out).trans (show some (Obj.cells T 67 (0, 0)) = some (.cells (VL ++ #[.int .u32 (B : Int)]) 67 (0, 0)) by rw [HVP.out]))
  have HG5 := Lib.hid ((b5.block _ hlt40).trans HG4.out)
  have HB5 := Lib.hid (HB4.out.trans (b5.mono HB4.out.size))
  have hlt5 : w2.heap.size < w5.heap.size := Nat.lt_of_lt_of_le hlt4 b5.size
  have hlt50 : w.heap.size < w5.heap.size := Nat.lt_of_lt_of_le hlt40 b5.size
  clear b5
  go_wp2_with (refine wpList_load_partW (by first | rfl | (simp [go_sem]; done)) 65 _ rfl w2.heap.size rfl 67 VL #[.int .u32 (B : Int)] (0, 0) _ HCG5.out Tryz.underlying65 rfl HS21.out ?_)
  refine (HARC.out _).mono ?_
  rintro e w6 ⟨rfl, b6⟩
  have HCG6 := Lib.hid (((b6.block _ hlt5).trans HCG5.out).trans (show some (Obj.cells (VL ++ #[.int .u32 (B : Int)]) 67 (0, 0)) = some (.cells T 67 (0, 0)) by rw [HVP.out]))
  have HG6 := Lib.hid ((b6.block _ hlt50).trans HG5.out)
  have HB6 := Lib.hid (HB5.out.trans (b6.mono HB5.out.size))
  clear b6
  go_wp2_with (first
    | (refine wpList_load_row rfl 67 _ rfl w2.heap.size rfl 67 T (0, 0) _ HCG6.out Tryz.underlying67 rfl HI.out ?_)
    | (refine wpList_store_row rfl 67 _ _ rfl w.heap.size T rfl rfl 67 _ HG6.out HI.out (by rw [HSZ.out]; rfl) HALL.out ?_))
  exact bodyPost_ret (results_ctt rfl rfl rfl rfl (setRow_heap _ _ _ _ _ _ HG6.out : Blk _ _ _ _) Tryz.underlying67 rfl HI.out) rfl ⟨rfl, below_rowP HB6.out (Nat.le_refl _) T⟩
set_option maxRecDepth 100000 in
set_option maxHeartbeats 4000000 in
theorem arcFrom_base (b v n : Int) (w : World) (h : baseB b = false) :
    Calls Tryz.prog 64 #[.int .i64 b, .int .i64 v, .int .i64 n] w fun e w' => e = .returned (.tuple #[.agg (VP (List.replicate 21 0) 0), .int .u32 0, .bool false]) ∧ Below w.heap.size w w' := by
  have HPF := Lib.hid (planeFrom_no b h)
  clear h
  have HZB := Lib.hid plBuilt0
  have HSZ0 := Lib.hid (VP_size (List.replicate 21 0) 0 (by simp))
  have HALL0 := Lib.hid (VP_all (List.replicate 21 0) 0)
  generalize VP (List.replicate 21 0) 0 = Z0 at *
  have HI0 := Lib.hid (show (Tryz.prog.info? 67).map (·.size) = some Z0.size by rw [HSZ0.out]; exact plInfo)
  go_enter Tryz.func64, Tryz.ntmps64
  go_wp2_with fail
  have HBL1 := Lib.hid ((Below.refl w.heap.size w).alloc (Nat.le_refl _) (.cells #[.int .u32 0, .int .u32 0, .int .u32 0, .int .u32 0, .int .u32 0, .int .u32 0, .int .u32 0, .int .u32 0, .int .u32 0, .int .u32 0, .int .u32 0, .int .u32 0, .int .u32 0, .int .u32 0, .int .u32 0, .int .u32 0, .int .u32 0, .int .u32 0, .int .u32 0, .int .u32 0, .int .u32 0, .int .u32 0] 67))
  have HG1 := Lib.hid (show (w.alloc (.cells #[.int .u32 0, .int .u32 0, .int .u32 0, .int .u32 0, .int .u32 0, .int .u32 0, .int .u32 0, .int .u32 0, .int .u32 0, .int .u32 0, .int .u32 0, .int .u32 0, .int .u32 0, .int .u32 0, .int .u32 0, .int .u32 0, .int .u32 0, .int .u32 0, .int .u32 0, .int .u32 0, .int .u32 0, .int .u32 0] 67)).heap[w.heap.size]? = some (.cells #[.int .u32 0, .int .u32 0, .int .u32 0, .int .u32 0, .int .u32 0, .int .u32 0, .int .u32 0, .int .u32 0, .int .u32 0, .int .u32 0, .int .u32 0, .int .u32 0, .int .u32 0, .int .u32 0, .int .u32 0, .int .u32 0, .int .u32 0, .int .u32 0, .int .u32 0, .int .u32 0, .int .u32 0, .int .u32 0] 67 (0, 0)) from Blk.new w _ _)
  have hlt1 : w.heap.size < (w.alloc (.cells #[.int .u32 0, .int .u32 0, .int .u32 0, .int .u32 0, .int .u32 0, .int .u32 0, .int .u32 0, .int .u32 0, .int .u32 0, .int .u32 0, .int .u32 0, .int .u32 0, .int .u32 0, .int .u32 0, .int .u32 0, .int .u32 0, .int .u32 0, .int .u32 0, .int .u32 0, .int .u32 0, .int .u32 0, .int .u32 0] 67)).heap.size := by simp
  generalize w.alloc (.cells #[.int .u32 0, .int .u32 0, .int .u32 0, .int .u32 0, .int .u32 0, .int .u32 0, .int .u32 0, .int .u32 0, .int .u32 0, .int .u32 0, .int .u32 0, .int .u32 0, .int .u32 0, .int .u32 0, .int .u32 0, .int .u32 0, .int .u32 0, .int .u32 0, .int .u32 0, .int .u32 0, .int .u32 0, .int .u32 0] 67) = W1 at *
  refine (HPF.out _).mono ?_
  rintro e w2 ⟨rfl, b2⟩
  have HG2 := Lib.hid ((b2.block _ hlt1).trans HG1.out)
  have B2 := HBL1.out.trans (b2.mono HBL1.out.size)
  have hlt2 : w.heap.size < w2.heap.size := Nat.lt_of_lt_of_le hlt1 b2.size
  clear b2 hlt1
  go_wp2_with (first
    | (refine wpList_store_row rfl 67 _ _ rfl w2.heap.size Z0 rfl rfl 67 _ (Blk.new w2 _ _) HI0.out (by rw [HSZ0.out]; rfl) HALL0.out ?_; have hcg := setRow_heap (w2.alloc (.cells #[.int .u32 0, .int .u32 0, .int .u32 0, .int .u32 0, .int .u32 0, .int .u32 0, .int .u32 0, .int .u32 0, .int .u32 0, .int .u32 0, .int .u32 0, .int .u32 0, .int .u32 0, .int .u32 0, .int .u32 0, .int .u32 0, .int .u32 0, .int .u32 0, .int .u32 0, .int .u32 0, .int .u32 0, .int .u32 0] 67)) w2.heap.size _ Z0 67 (0, 0) (Blk.new w2 _ _); have hb3 := below_rowP (B2.alloc B2.size (.cells #[.int .u32 0, .int .u32 0, .int .u32 0, .int .u32 0, .int .u32 0, .int .u32 0, .int .u32 0, .int .u32 0, .int .u32 0, .int .u32 0, .int .u32 0, .int .u32 0, .int .u32 0, .int .u32 0, .int .u32 0, .int .u32 0, .int .u32 0, .int .u32 0, .int .u32 0, .int .u32 0, .int .u32 0, .int .u32 0] 67)) B2.size Z0; have hg3 := (setRow_other (w2.alloc (.cells #[.int .u32 0, .int .u32 0, .int .u32 0, .int .u32 0, .int .u32 0, .int .u32 0, .int .u32 0, .int .u32 0, .int .u32 0, .int .u32 0, .int .u32 0, .int .u32 0, .int .u32 0, .int .u32 0, .int .u32 0, .int .u32 0, .int .u32 0, .int .u32 0, .int .u32 0, .int .u32 0, .int .u32 0, .int .u32 0] 67)) w2.heap.size w.heap.size Z0 (by omega)).trans ((heap_alloc_old w2 (.cells #[.int .u32 0, .int .u32 0, .int .u32 0, .int .u32 0, .int .u32 0, .int .u32 0, .int .u32 0, .int .u32 0, .int .u32 0, .int .u32 0, .int .u32 0, .int .u32 0, .int .u32 0, .int .u32 0, .int .u32 0, .int .u32 0, .int .u32 0, .int .u32 0, .int .u32 0, .int .u32 0, .int .u32 0, .int .u32 0] 67) hlt2).trans HG2.out); generalize (w2.alloc (.cells #[.int .u32 0, .int .u32 0, .int .u32 0, .int .u32 0, .int .u32 0, .int .u32 0, .int .u32 0, .int .u32 0, .int .u32 0, .int .u32 0, .int .u32 0, .int .u32 0, .int .u32 0, .int .u32 0, .int .u32 0, .int .u32 0, .int .u32 0, .int .u32 0, .int .u32 0, .int .u32 0, .int .u32 0, .int .u32 0] 67)).setRow w2.heap.size Z0 = w3 at *; have HG3 := Lib.hid hg3; have HCG := Lib.hid hcg; have HB3 := Lib.hid hb3; clear hcg hb3 hg3)
    | (refine wpList_build0 rfl 67 rfl Z0 HZB.out ?_)
    | (refine wpList_store_row rfl 67 _ _ rfl w.heap.size Z0 rfl rfl 67 _ HG3.out HI0.out (by rw [HSZ0.out]; rfl) HALL0.out ?_))
  exact bodyPost_ret (results_ctt rfl rfl rfl rfl (setRow_heap _ _ _ _ _ _ HG3.out : Blk _ _ _ _) Tryz.underlying67 rfl HI0.out) rfl ⟨rfl, below_rowP HB3.out (Nat.le_refl _) Z0⟩
set_option maxRecDepth 100000 in
set_option maxHeartbeats 4000000 in
theorem arcFrom_word (B : Nat) (v n : Int) (w : World) (hT : Tab3E w) (hB : IsBase B) (h : wordB v = false) :
    Calls Tryz.prog 64 #[.int .i64 (B : Int), .int .i64 v, .int .i64 n] w fun e w' => e = .returned (.tuple #[.agg (VP (List.replicate 21 0) 0), .int .u32 0, .bool false]) ∧ Below w.heap.size w w' := by
  have HPF := Lib.hid (planeFrom_yes B hB)
  have HSZ := Lib.hid (VP_size (lns (B : Int)) (B : Int) (lns_len hB))
  have HALL := Lib.hid (VP_all (lns (B : Int)) (B : Int))
  have HVP := Lib.hid (show VP (lns (B : Int)) (B : Int) = V21 (lns (B : Int)) ++ #[.int .u32 (B : Int)] from rfl)
  have HS21 := Lib.hid (show (Tryz.prog.info? 65).map (·.size) = some (V21 (lns (B : Int))).size by rw [V21_size, lns_len hB]; exact llInfo)
  have HLAST := Lib.hid (VP_last (lns (B : Int)) (B : Int) (lns_len hB))
  have HWP := Lib.hid (fun W => iWordPlaces_no v W ((wordB_no v).1 h))
  clear h
  generalize VP (lns (B : Int)) (B : Int) = T at *
  generalize V21 (lns (B : Int)) = VL at *
  have HZB := Lib.hid plBuilt0
  have HSZ0 := Lib.hid (VP_size (List.replicate 21 0) 0 (by simp))
  have HALL0 := Lib.hid (VP_all (List.replicate 21 0) 0)
  generalize VP (List.replicate 21 0) 0 = Z0 at *
  have HI0 := Lib.hid (show (Tryz.prog.info? 67).map (·.size) = some Z0.size by rw [HSZ0.out]; exact plInfo)
  have HI := Lib.hid (show (Tryz.prog.info? 67).map (·.size) = some T.size by rw [HSZ.out]; exact plInfo)
  have HT := Lib.hid hT
  have HTL := Lib.hid hT.lt
  clear hT
  go_enter Tryz.func64, Tryz.ntmps64
  go_wp2_with fail
  have HBL1 := Lib.hid ((Below.refl w.heap.size w).alloc (Nat.le_refl _) (.cells #[.int .u32 0, .int .u32 0, .int .u32 0, .int .u32 0, .int .u32 0, .int .u32 0, .int .u32 0, .int .u32 0, .int .u32 0, .int .u32 0, .int .u32 0, .int .u32 0, .int .u32 0, .int .u32 0, .int .u32 0, .int .u32 0, .int .u32 0, .int .u32 0, .int .u32 0, .int .u32 0, .int .u32 0, .int .u32 0] 67))
  have HG1 := Lib.hid (show (w.alloc (.cells #[.int .u32 0, .int .u32 0, .int .u32 0, .int .u32 0, .int .u32 0, .int .u32 0, .int .u32 0, .int .u32 0, .int .u32 0, .int .u32 0, .int .u32 0, .int .u32 0, .int .u32 0, .int .u32 0, .int .u32 0, .int .u32 0, .int .u32 0, .int .u32 0, .int .u32 0, .int .u32 0, .int .u32 0, .int .u32 0] 67)).heap[w.heap.size]? = some (.cells #[.int .u32 0, .int .u32 0, .int .u32 0, .int .u32 0, .int .u32 0, .int .u32 0, .int .u32 0, .int .u32 0, .int .u32 0, .int .u32 0, .int .u32 0, .int .u32 0, .int .u32 0, .int .u32 0, .int .u32 0, .int .u32 0, .int .u32 0, .int .u32 0, .int .u32 0, .int .u32 0, .int .u32 0, .int .u32 0] 67 (0, 0)) from Blk.new w _ _)
  have hlt1 : w.heap.size < (w.alloc (.cells #[.int .u32 0, .int .u32 0, .int .u32 0, .int .u32 0, .int .u32 0, .int .u32 0, .int .u32 0, .int .u32 0, .int .u32 0, .int .u32 0, .int .u32 0, .int .u32 0, .int .u32 0, .int .u32 0, .int .u32 0, .int .u32 0, .int .u32 0, .int .u32 0, .int .u32 0, .int .u32 0, .int .u32 0, .int .u32 0] 67)).heap.size := by simp
  generalize w.alloc (.cells #[.int .u32 0, .int .u32 0, .int .u32 0, .int .u32 0, .int .u32 0, .int .u32 0, .int .u32 0, .int .u32 0, .int .u32 0, .int .u32 0, .int .u32 0, .int .u32 0, .int .u32 0, .int .u32 0, .int .u32 0, .int .u32 0, .int .u32 0, .int .u32 0, .int .u32 0, .int .u32 0, .int .u32 0, .int .u32 0] 67) = W1 at *
  refine (HPF.out _ (HT.out.two.below HBL1.out HT.out.two.lt)).mono ?_
  rintro e w2 ⟨rfl, b2⟩
  have HG2 := Lib.hid ((b2.block _ hlt1).trans HG1.out)
  have B2 := HBL1.out.trans (b2.mono HBL1.out.size)
  have hlt2 : w.heap.size < w2.heap.size := Nat.lt_of_lt_of_le hlt1 b2.size
  clear b2 hlt1
  go_wp2_with (first
    | (refine wpList_store_row rfl 67 _ _ rfl w2.heap.size T rfl rfl 67 _ (Blk.new w2 _ _) HI.out (by rw [HSZ.out]; rfl) HALL.out ?_; have hcg := setRow_heap (w2.alloc (.cells #[.int .u32 0, .int .u32 0, .int .u32 0, .int .u32 0, .int .u32 0, .int .u32 0, .int .u32 0, .int .u32 0, .int .u32 0, .int .u32 0, .int .u32 0, .int .u32 0, .int .u32 0, .int .u32 0, .int .u32 0, .int .u32 0, .int .u32 0, .int .u32 0, .int .u32 0, .int .u32 0, .int .u32 0, .int .u32 0] 67)) w2.heap.size _ T 67 (0, 0) (Blk.new w2 _ _); have hb3 := below_rowP (B2.alloc B2.size (.cells #[.int .u32 0, .int .u32 0, .int .u32 0, .int .u32 0, .int .u32 0, .int .u32 0, .int .u32 0, .int .u32 0, .int .u32 0, .int .u32 0, .int .u32 0, .int .u32 0, .int .u32 0, .int .u32 0, .int .u32 0, .int .u32 0, .int .u32 0, .int .u32 0, .int .u32 0, .int .u32 0, .int .u32 0, .int .u32 0] 67)) B2.size T; have hg3 := (setRow_other (w2.alloc (.cells #[.int .u32 0, .int .u32 0, .int .u32 0, .int .u32 0, .int .u32 0, .int .u32 0, .int .u32 0, .int .u32 0, .int .u32 0, .int .u32 0, .int .u32 0, .int .u32 0, .int .u32 0, .int .u32 0, .int .u32 0, .int .u32 0, .int .u32 0, .int .u32 0, .int .u32 0, .int .u32 0, .int .u32 0, .int .u32 0] 67)) w2.heap.size w.heap.size T (by omega)).trans ((heap_alloc_old w2 (.cells #[.int .u32 0, .int .u32 0, .int .u32 0, .int .u32 0, .int .u32 0, .int .u32 0, .int .u32 0, .int .u32 0, .int .u32 0, .int .u32 0, .int .u32 0, .int .u32 0, .int .u32 0, .int .u32 0, .int .u32 0, .int .u32 0, .int .u32 0, .int .u32 0, .int .u32 0, .int .u32 0, .int .u32 0, .int .u32 0] 67) hlt2).trans HG2.out); generalize (w2.alloc (.cells #[.int .u32 0, .int .u32 0, .int .u32 0, .int .u32 0, .int .u32 0, .int .u32 0, .int .u32 0, .int .u32 0, .int .u32 0, .int .u32 0, .int .u32 0, .int .u32 0, .int .u32 0, .int .u32 0, .int .u32 0, .int .u32 0, .int .u32 0, .int .u32 0, .int .u32 0, .int .u32 0, .int .u32 0, .int .u32 0] 67)).setRow w2.heap.size T = w3 at *; have HG3 := Lib.hid hg3; have HCG := Lib.hid hcg; have HB3 := Lib.hid hb3; clear hcg hb3 hg3))
  have hlt3 : w2.heap.size < w3.heap.size := by
    rcases Nat.lt_or_ge w2.heap.size w3.heap.size with h | h
    · exact h
    · have := HCG.out; rw [Array.getElem?_eq_none h] at this; cases this
  refine (HWP.out _).mono ?_
  rintro e w' ⟨rfl, rfl⟩
  go_wp2_with (first
    | (refine wpList_build0 rfl 67 rfl Z0 HZB.out ?_)
    | (refine wpList_store_row rfl 67 _ _ rfl w.heap.size Z0 rfl rfl 67 _ HG3.out HI0.out (by rw [HSZ0.out]; rfl) HALL0.out ?_))
  exact bodyPost_ret (results_ctt rfl rfl rfl rfl (setRow_heap _ _ _ _ _ _ HG3.out : Blk _ _ _ _) Tryz.underlying67 rfl HI0.out) rfl ⟨rfl, below_rowP HB3.out (Nat.le_refl _) Z0⟩
set_option maxRecDepth 100000 in
set_option maxHeartbeats 4000000 in
theorem arcFrom_pts (B : Nat) (v n : Int) (w : World) (hT : Tab3E w) (hB : IsBase B) (wv : IsW v) (h : wt v ≠ n ∨ andI v (B : Int) ≠ 0) :
    Calls Tryz.prog 64 #[.int .i64 (B : Int), .int .i64 v, .int .i64 n] w fun e w' => e = .returned (.tuple #[.agg (VP (List.replicate 21 0) 0), .int .u32 0, .bool false]) ∧ Below w.heap.size w w' := by
  have HPF := Lib.hid (planeFrom_yes B hB)
  have HSZ := Lib.hid (VP_size (lns (B : Int)) (B : Int) (lns_len hB))
  have HALL := Lib.hid (VP_all (lns (B : Int)) (B : Int))
  have HVP := Lib.hid (show VP (lns (B : Int)) (B : Int) = V21 (lns (B : Int)) ++ #[.int .u32 (B : Int)] from rfl)
  have HS21 := Lib.hid (show (Tryz.prog.info? 65).map (·.size) = some (V21 (lns (B : Int))).size by rw [V21_size, lns_len hB]; exact llInfo)
  have HLAST := Lib.hid (VP_last (lns (B : Int)) (B : Int) (lns_len hB))
  obtain ⟨v', rfl⟩ := Int.eq_ofNat_of_zero_le wv.1
  have hw : v' < 16777216 := by have := wv.2; omega
  have HWP := Lib.hid (fun W (hT : TabB W) => iWordPlaces_ok (v' : Int) W wv hT)
  rw [Int.toNat_natCast] at HWP
  have hmax : (plI v').length ≤ maxLen := by
    have := pl_len v'
    unfold plI maxLen
    rw [List.length_map]; omega
  have hlen : ((plI v').length : Int) = wt (v' : Int) := by have := wt_plI (v' : Int) (by omega); simpa using this
  have hno : ((plI v').all fun x => ptB (B : Int) x) = false ∨ ((plI v').length : Int) ≠ n ∨ wof (plI v') = none := by
    rcases h with h | h
    · exact .inr (.inl (by rw [hlen]; exact h))
    · exact .inl (by rw [all_pts hw]; exact decide_eq_false h)
  have HPTS := Lib.hid (fun A c W ha hE => pts_no _ B hB.1 HSZ.out HLAST.out A c (plI v') n W ha hmax hE hno)
  clear h hlen hno hmax
  generalize plI v' = L at *
  generalize VP (lns (B : Int)) (B : Int) = T at *
  generalize V21 (lns (B : Int)) = VL at *
  generalize (v' : Int) = v at *
  have HZB := Lib.hid plBuilt0
  have HSZ0 := Lib.hid (VP_size (List.replicate 21 0) 0 (by simp))
  have HALL0 := Lib.hid (VP_all (List.replicate 21 0) 0)
  generalize VP (List.replicate 21 0) 0 = Z0 at *
  have HI0 := Lib.hid (show (Tryz.prog.info? 67).map (·.size) = some Z0.size by rw [HSZ0.out]; exact plInfo)
  have HI := Lib.hid (show (Tryz.prog.info? 67).map (·.size) = some T.size by rw [HSZ.out]; exact plInfo)
  have HT := Lib.hid hT
  have HTL := Lib.hid hT.lt
  clear hT
  go_enter Tryz.func64, Tryz.ntmps64
  go_wp2_with fail
  have HBL1 := Lib.hid ((Below.refl w.heap.size w).alloc (Nat.le_refl _) (.cells #[.int .u32 0, .int .u32 0, .int .u32 0, .int .u32 0, .int .u32 0, .int .u32 0, .int .u32 0, .int .u32 0, .int .u32 0, .int .u32 0, .int .u32 0, .int .u32 0, .int .u32 0, .int .u32 0, .int .u32 0, .int .u32 0, .int .u32 0, .int .u32 0, .int .u32 0, .int .u32 0, .int .u32 0, .int .u32 0] 67))
  have HG1 := Lib.hid (show (w.alloc (.cells #[.int .u32 0, .int .u32 0, .int .u32 0, .int .u32 0, .int .u32 0, .int .u32 0, .int .u32 0, .int .u32 0, .int .u32 0, .int .u32 0, .int .u32 0, .int .u32 0, .int .u32 0, .int .u32 0, .int .u32 0, .int .u32 0, .int .u32 0, .int .u32 0, .int .u32 0, .int .u32 0, .int .u32 0, .int .u32 0] 67)).heap[w.heap.size]? = some (.cells #[.int .u32 0, .int .u32 0, .int .u32 0, .int .u32 0, .int .u32 0, .int .u32 0, .int .u32 0, .int .u32 0, .int .u32 0, .int .u32 0, .int .u32 0, .int .u32 0, .int .u32 0, .int .u32 0, .int .u32 0, .int .u32 0, .int .u32 0, .int .u32 0, .int .u32 0, .int .u32 0, .int .u32 0, .int .u32 0] 67 (0, 0)) from Blk.new w _ _)
  have hlt1 : w.heap.size < (w.alloc (.cells #[.int .u32 0, .int .u32 0, .int .u32 0, .int .u32 0, .int .u32 0, .int .u32 0, .int .u32 0, .int .u32 0, .int .u32 0, .int .u32 0, .int .u32 0, .int .u32 0, .int .u32 0, .int .u32 0, .int .u32 0, .int .u32 0, .int .u32 0, .int .u32 0, .int .u32 0, .int .u32 0, .int .u32 0, .int .u32 0] 67)).heap.size := by simp
  generalize w.alloc (.cells #[.int .u32 0, .int .u32 0, .int .u32 0, .int .u32 0, .int .u32 0, .int .u32 0, .int .u32 0, .int .u32 0, .int .u32 0, .int .u32 0, .int .u32 0, .int .u32 0, .int .u32 0, .int .u32 0, .int .u32 0, .int .u32 0, .int .u32 0, .int .u32 0, .int .u32 0, .int .u32 0, .int .u32 0, .int .u32 0] 67) = W1 at *
  refine (HPF.out _ (HT.out.two.below HBL1.out HT.out.two.lt)).mono ?_
  rintro e w2 ⟨rfl, b2⟩
  have HG2 := Lib.hid ((b2.block _ hlt1).trans HG1.out)
  have B2 := HBL1.out.trans (b2.mono HBL1.out.size)
  have hlt2 : w.heap.size < w2.heap.size := Nat.lt_of_lt_of_le hlt1 b2.size
  clear b2 hlt1
  go_wp2_with (first
    | (refine wpList_store_row rfl 67 _ _ rfl w2.heap.size T rfl rfl 67 _ (Blk.new w2 _ _) HI.out (by rw [HSZ.out]; rfl) HALL.out ?_; have hcg := setRow_heap (w2.alloc (.cells #[.int .u32 0, .int .u32 0, .int .u32 0, .int .u32 0, .int .u32 0, .int .u32 0, .int .u32 0, .int .u32 0, .int .u32 0, .int .u32 0, .int .u32 0, .int .u32 0, .int .u32 0, .int .u32 0, .int .u32 0, .int .u32 0, .int .u32 0, .int .u32 0, .int .u32 0, .int .u32 0, .int .u32 0, .int .u32 0] 67)) w2.heap.size _ T 67 (0, 0) (Blk.new w2 _ _); have hb3 := below_rowP (B2.alloc B2.size (.cells #[.int .u32 0, .int .u32 0, .int .u32 0, .int .u32 0, .int .u32 0, .int .u32 0, .int .u32 0, .int .u32 0, .int .u32 0, .int .u32 0, .int .u32 0, .int .u32 0, .int .u32 0, .int .u32 0, .int .u32 0, .int .u32 0, .int .u32 0, .int .u32 0, .int .u32 0, .int .u32 0, .int .u32 0, .int .u32 0] 67)) B2.size T; have hg3 := (setRow_other (w2.alloc (.cells #[.int .u32 0, .int .u32 0, .int .u32 0, .int .u32 0, .int .u32 0, .int .u32 0, .int .u32 0, .int .u32 0, .int .u32 0, .int .u32 0, .int .u32 0, .int .u32 0, .int .u32 0, .int .u32 0, .int .u32 0, .int .u32 0, .int .u32 0, .int .u32 0, .int .u32 0, .int .u32 0, .int .u32 0, .int .u32 0] 67)) w2.heap.size w.heap.size T (by omega)).trans ((heap_alloc_old w2 (.cells #[.int .u32 0, .int .u32 0, .int .u32 0, .int .u32 0, .int .u32 0, .int .u32 0, .int .u32 0, .int .u32 0, .int .u32 0, .int .u32 0, .int .u32 0, .int .u32 0, .int .u32 0, .int .u32 0, .int .u32 0, .int .u32 0, .int .u32 0, .int .u32 0, .int .u32 0, .int .u32 0, .int .u32 0, .int .u32 0] 67) hlt2).trans HG2.out); generalize (w2.alloc (.cells #[.int .u32 0, .int .u32 0, .int .u32 0, .int .u32 0, .int .u32 0, .int .u32 0, .int .u32 0, .int .u32 0, .int .u32 0, .int .u32 0, .int .u32 0, .int .u32 0, .int .u32 0, .int .u32 0, .int .u32 0, .int .u32 0, .int .u32 0, .int .u32 0, .int .u32 0, .int .u32 0, .int .u32 0, .int .u32 0] 67)).setRow w2.heap.size T = w3 at *; have HG3 := Lib.hid hg3; have HCG := Lib.hid hcg; have HB3 := Lib.hid hb3; clear hcg hb3 hg3))
  have hlt3 : w2.heap.size < w3.heap.size := by
    rcases Nat.lt_or_ge w2.heap.size w3.heap.size with h | h
    · exact h
    · have := HCG.out; rw [Array.getElem?_eq_none h] at this; cases this
  refine (HWP.out _ (HT.out.1.below HB3.out (show _ < _ from Nat.lt_of_le_of_lt (by first | exact Nat.le_refl _ | decide | (unfold tab3EG tab3G; omega)) HTL.out))).mono ?_
  rintro e w4 ⟨lv, rfl, o4, b4⟩
  obtain ⟨A4, c4, rfl⟩ := o4.slice
  have hlt0 : w.heap.size < w3.heap.size := by omega
  have B4 := HB3.out.trans (b4.mono HB3.out.size)
  have HCG4 := Lib.hid ((b4.block _ hlt3).trans HCG.out)
  have HG4 := Lib.hid ((b4.block _ hlt0).trans HG3.out)
  have HB4 := Lib.hid B4
  have hlt4 : w2.heap.size < w4.heap.size := Nat.lt_of_lt_of_le hlt3 b4.size
  have hlt40 : w.heap.size < w4.heap.size := Nat.lt_of_lt_of_le hlt0 b4.size
  have HPC := Lib.hid (HPTS.out A4 c4 w4 o4.rds (HT.out.hand.below HB4.out HT.out.hand.lt))
  clear b4 B4 o4
  go_wp2_with (first
    | (refine wpList_load_row rfl 67 _ rfl w2.heap.size rfl 67 T (0, 0) _ HCG4.out Tryz.underlying67 rfl HI.out ?_))
  refine HPC.out.mono ?_
  rintro e w5 ⟨rfl, b5⟩
  have HG5 := Lib.hid ((b5.block _ hlt40).trans HG4.out)
  have HB5 := Lib.hid (HB4.out.trans (b5.mono HB4.out.size))
  clear b5
  go_wp2_with (first
    | (refine wpList_build0 rfl 67 rfl Z0 HZB.out ?_)
    | (refine wpList_store_row rfl 67 _ _ rfl w.heap.size Z0 rfl rfl 67 _ HG5.out HI0.out (by rw [HSZ0.out]; rfl) HALL0.out ?_))
  exact bodyPost_ret (results_ctt rfl rfl rfl rfl (setRow_heap _ _ _ _ _ _ HG5.out : Blk _ _ _ _) Tryz.underlying67 rfl HI0.out) rfl ⟨rfl, below_rowP HB5.out (Nat.le_refl _) Z0⟩
set_option maxRecDepth 100000 in
set_option maxHeartbeats 4000000 in
theorem arcFrom_thick (B : Nat) (v n : Int) (w : World) (hT : Tab3E w) (hB : IsBase B) (wv : IsW v) (hn : wt v = n) (h0 : andI v (B : Int) = 0) (hth : thinB (B : Int) v = false) :
    Calls Tryz.prog 64 #[.int .i64 (B : Int), .int .i64 v, .int .i64 n] w fun e w' => e = .returned (.tuple #[.agg (VP (List.replicate 21 0) 0), .int .u32 0, .bool false]) ∧ Below w.heap.size w w' := by
  have HPF := Lib.hid (planeFrom_yes B hB)
  have HSZ := Lib.hid (VP_size (lns (B : Int)) (B : Int) (lns_len hB))
  have HALL := Lib.hid (VP_all (lns (B : Int)) (B : Int))
  have HVP := Lib.hid (show VP (lns (B : Int)) (B : Int) = V21 (lns (B : Int)) ++ #[.int .u32 (B : Int)] from rfl)
  have HS21 := Lib.hid (show (Tryz.prog.info? 65).map (·.size) = some (V21 (lns (B : Int))).size by rw [V21_size, lns_len hB]; exact llInfo)
  have HLAST := Lib.hid (VP_last (lns (B : Int)) (B : Int) (lns_len hB))
  obtain ⟨v', rfl⟩ := Int.eq_ofNat_of_zero_le wv.1
  have hw : v' < 16777216 := by have := wv.2; omega
  have HWP := Lib.hid (fun W (hT : TabB W) => iWordPlaces_ok (v' : Int) W wv hT)
  rw [Int.toNat_natCast] at HWP
  have hmax : (plI v').length ≤ maxLen := by
    have := pl_len v'
    unfold plI maxLen
    rw [List.length_map]; omega
  have hall : ((plI v').all fun x => ptB (B : Int) x) = true := by rw [all_pts hw, h0]; rfl
  have hlen : ((plI v').length : Int) = n := by have := wt_plI (v' : Int) (by omega); simpa [hn] using this
  have hwof : wof (plI v') = some (v' : Int) := wof_plI (v' : Int) wv
  have HPTS := Lib.hid (fun A c W ha => pts_yes _ B hB.1 HSZ.out HLAST.out A c (plI v') _ W ha hmax hall hwof wv.1 wv.2)
  rw [hlen] at HPTS
  have HARC := Lib.hid (fun W => isArc_calls (lns (B : Int)) (lns_len hB) (fun j hj => lns_W hB j hj) (v' : Int) wv W)
  rw [show ((lns (B : Int)).all fun x => decide (wt (andI x (v' : Int)) ≤ 2)) = false from hth] at HARC
  clear hn h0 hth hall hwof hlen hmax
  generalize plI v' = L at *
  generalize VP (lns (B : Int)) (B : Int) = T at *
  generalize V21 (lns (B : Int)) = VL at *
  generalize (v' : Int) = v at *
  have HZB := Lib.hid plBuilt0
  have HSZ0 := Lib.hid (VP_size (List.replicate 21 0) 0 (by simp))
  have HALL0 := Lib.hid (VP_all (List.replicate 21 0) 0)
  generalize VP (List.replicate 21 0) 0 = Z0 at *
  have HI0 := Lib.hid (show (Tryz.prog.info? 67).map (·.size) = some Z0.size by rw [HSZ0.out]; exact plInfo)
  have HI := Lib.hid (show (Tryz.prog.info? 67).map (·.size) = some T.size by rw [HSZ.out]; exact plInfo)
  have HT := Lib.hid hT
  have HTL := Lib.hid hT.lt
  clear hT
  go_enter Tryz.func64, Tryz.ntmps64
  go_wp2_with fail
  have HBL1 := Lib.hid ((Below.refl w.heap.size w).alloc (Nat.le_refl _) (.cells #[.int .u32 0, .int .u32 0, .int .u32 0, .int .u32 0, .int .u32 0, .int .u32 0, .int .u32 0, .int .u32 0, .int .u32 0, .int .u32 0, .int .u32 0, .int .u32 0, .int .u32 0, .int .u32 0, .int .u32 0, .int .u32 0, .int .u32 0, .int .u32 0, .int .u32 0, .int .u32 0, .int .u32 0, .int .u32 0] 67))
  have HG1 := Lib.hid (show (w.alloc (.cells #[.int .u32 0, .int .u32 0, .int .u32 0, .int .u32 0, .int .u32 0, .int .u32 0, .int .u32 0, .int .u32 0, .int .u32 0, .int .u32 0, .int .u32 0, .int .u32 0, .int .u32 0, .int .u32 0, .int .u32 0, .int .u32 0, .int .u32 0, .int .u32 0, .int .u32 0, .int .u32 0, .int .u32 0, .int .u32 0] 67)).heap[w.heap.size]? = some (.cells #[.int .u32 0, .int .u32 0, .int .u32 0, .int .u32 0, .int .u32 0, .int .u32 0, .int .u32 0, .int .u32 0, .int .u32 0, .int .u32 0, .int .u32 0, .int .u32 0, .int .u32 0, .int .u32 0, .int .u32 0, .int .u32 0, .int .u32 0, .int .u32 0, .int .u32 0, .int .u32 0, .int .u32 0, .int .u32 0] 67 (0, 0)) from Blk.new w _ _)
  have hlt1 : w.heap.size < (w.alloc (.cells #[.int .u32 0, .int .u32 0, .int .u32 0, .int .u32 0, .int .u32 0, .int .u32 0, .int .u32 0, .int .u32 0, .int .u32 0, .int .u32 0, .int .u32 0, .int .u32 0, .int .u32 0, .int .u32 0, .int .u32 0, .int .u32 0, .int .u32 0, .int .u32 0, .int .u32 0, .int .u32 0, .int .u32 0, .int .u32 0] 67)).heap.size := by simp
  generalize w.alloc (.cells #[.int .u32 0, .int .u32 0, .int .u32 0, .int .u32 0, .int .u32 0, .int .u32 0, .int .u32 0, .int .u32 0, .int .u32 0, .int .u32 0, .int .u32 0, .int .u32 0, .int .u32 0, .int .u32 0, .int .u32 0, .int .u32 0, .int .u32 0, .int .u32 0, .int .u32 0, .int .u32 0, .int .u32 0, .int .u32 0] 67) = W1 at *
  refine (HPF.out _ (HT.out.two.below HBL1.out HT.out.two.lt)).mono ?_
  rintro e w2 ⟨rfl, b2⟩
  have HG2 := Lib.hid ((b2.block _ hlt1).trans HG1.out)
  have B2 := HBL1.out.trans (b2.mono HBL1.out.size)
  have hlt2 : w.heap.size < w2.heap.size := Nat.lt_of_lt_of_le hlt1 b2.size
  clear b2 hlt1
  go_wp2_with (first
    | (refine wpList_store_row rfl 67 _ _ rfl w2.heap.size T rfl rfl 67 _ (Blk.new w2 _ _) HI.out (by rw [HSZ.out]; rfl) HALL.out ?_; have hcg := setRow_heap (w2.alloc (.cells #[.int .u32 0, .int .u32 0, .int .u32 0, .int .u32 0, .int .u32 0, .int .u32 0, .int .u32 0, .int .u32 0, .int .u32 0, .int .u32 0, .int .u32 0, .int .u32 0, .int .u32 0, .int .u32 0, .int .u32 0, .int .u32 0, .int .u32 0, .int .u32 0, .int .u32 0, .int .u32 0, .int .u32 0, .int .u32 0] 67)) w2.heap.size _ T 67 (0, 0) (Blk.new w2 _ _); have hb3 := below_rowP (B2.alloc B2.size (.cells #[.int .u32 0, .int .u32 0, .int .u32 0, .int .u32 0, .int .u32 0, .int .u32 0, .int .u32 0, .int .u32 0, .int .u32 0, .int .u32 0, .int .u32 0, .int .u32 0, .int .u32 0, .int .u32 0, .int .u32 0, .int .u32 0, .int .u32 0, .int .u32 0, .int .u32 0, .int .u32 0, .int .u32 0, .int .u32 0] 67)) B2.size T; have hg3 := (setRow_other (w2.alloc (.cells #[.int .u32 0, .int .u32 0, .int .u32 0, .int .u32 0, .int .u32 0, .int .u32 0, .int .u32 0, .int .u32 0, .int .u32 0, .int .u32 0, .int .u32 0, .int .u32 0, .int .u32 0, .int .u32 0, .int .u32 0, .int .u32 0, .int .u32 0, .int .u32 0, .int .u32 0, .int .u32 0, .int .u32 0, .int .u32 0] 67)) w2.heap.size w.heap.size T (by omega)).trans ((heap_alloc_old w2 (.cells #[.int .u32 0, .int .u32 0, .int .u32 0, .int .u32 0, .int .u32 0, .int .u32 0, .int .u32 0, .int .u32 0, .int .u32 0, .int .u32 0, .int .u32 0, .int .u32 0, .int .u32 0, .int .u32 0, .int .u32 0, .int .u32 0, .int .u32 0, .int .u32 0, .int .u32 0, .int .u32 0, .int .u32 0, .int .u32 0] 67) hlt2).trans HG2.out); generalize (w2.alloc (.cells #[.int .u32 0, .int .u32 0, .int .u32 0, .int .u32 0, .int .u32 0, .int .u32 0, .int .u32 0, .int .u32 0, .int .u32 0, .int .u32 0, .int .u32 0, .int .u32 0, .int .u32 0, .int .u32 0, .int .u32 0, .int .u32 0, .int .u32 0, .int .u32 0, .int .u32 0, .int .u32 0, .int .u32 0, .int .u32 0] 67)).setRow w2.heap.size T = w3 at *; have HG3 := Lib.hid hg3; have HCG := Lib.hid hcg; have HB3 := Lib.hid hb3; clear hcg hb3 hg3))
  have hlt3 : w2.heap.size < w3.heap.size := by
    rcases Nat.lt_or_ge w2.heap.size w3.heap.size with h | h
    · exact h
    · have := HCG.out; rw [Array.getElem?_eq_none h] at this; cases this
  refine (HWP.out _ (HT.out.1.below HB3.out (show _ < _ from Nat.lt_of_le_of_lt (by first | exact Nat.le_refl _ | decide | (unfold tab3EG tab3G; omega)) HTL.out))).mono ?_
  rintro e w4 ⟨lv, rfl, o4, b4⟩
  obtain ⟨A4, c4, rfl⟩ := o4.slice
  have hlt0 : w.heap.size < w3.heap.size := by omega
  have B4 := HB3.out.trans (b4.mono HB3.out.size)
  have HCG4 := Lib.hid ((b4.block _ hlt3).trans HCG.out)
  have HG4 := Lib.hid ((b4.block _ hlt0).trans HG3.out)
  have HB4 := Lib.hid B4
  have hlt4 : w2.heap.size < w4.heap.size := Nat.lt_of_lt_of_le hlt3 b4.size
  have hlt40 : w.heap.size < w4.heap.size := Nat.lt_of_lt_of_le hlt0 b4.size
  have HPC := Lib.hid (HPTS.out A4 c4 w4 o4.rds)
  clear b4 B4 o4
  go_wp2_with (first
    | (refine wpList_load_row rfl 67 _ rfl w2.heap.size rfl 67 T (0, 0) _ HCG4.out Tryz.underlying67 rfl HI.out ?_))
  refine HPC.out.mono ?_
  rintro e w5 ⟨rfl, b5⟩
  have HCG5 := Lib.hid (((b5.block _ hlt4).trans HCG4.out).trans (show some (Obj.cells T 67 (0, 0)) = some (.cells (VL ++ #[.int .u32 (B : Int)]) 67 (0, 0)) by rw [HVP.out]))
  have HG5 := Lib.hid ((b5.block _ hlt40).trans HG4.out)
  have HB5 := Lib.hid (HB4.out.trans (b5.mono HB4.out.size))
  have hlt5 : w2.heap.size < w5.heap.size := Nat.lt_of_lt_of_le hlt4 b5.size
  have hlt50 : w.heap.size < w5.heap.size := Nat.lt_of_lt_of_le hlt40 b5.size
  clear b5
  go_wp2_with (refine wpList_load_partW (by first | rfl | (simp [go_sem]; done)) 65 _ rfl w2.heap.size rfl 67 VL #[.int .u32 (B : Int)] (0, 0) _ HCG5.out Tryz.underlying65 rfl HS21.out ?_)
  refine (HARC.out _).mono ?_
  rintro e w6 ⟨rfl, b6⟩
  have HG6 := Lib.hid ((b6.block _ hlt50).trans HG5.out)
  have HB6 := Lib.hid (HB5.out.trans (b6.mono HB5.out.size))
  clear b6
  go_wp2_with (first
    | (refine wpList_build0 rfl 67 rfl Z0 HZB.out ?_)
    | (refine wpList_store_row rfl 67 _ _ rfl w.heap.size Z0 rfl rfl 67 _ HG6.out HI0.out (by rw [HSZ0.out]; rfl) HALL0.out ?_))
  exact bodyPost_ret (results_ctt rfl rfl rfl rfl (setRow_heap _ _ _ _ _ _ HG6.out : Blk _ _ _ _) Tryz.underlying67 rfl HI0.out) rfl ⟨rfl, below_rowP HB6.out (Nat.le_refl _) Z0⟩
theorem arcFrom_no (b v n : Int) (w : World) (hT : Tab3E w) (h : arcB b v n = false) :
    Calls Tryz.prog 64 #[.int .i64 b, .int .i64 v, .int .i64 n] w fun e w' => e = .returned (.tuple #[.agg (VP (List.replicate 21 0) 0), .int .u32 0, .bool false]) ∧ Below w.heap.size w w' := by
  rcases hb : baseB b with _ | _
  · exact arcFrom_base b v n w hb
  obtain ⟨B, rfl, hB⟩ := baseB_nat hb
  rcases hv : wordB v with _ | _
  · exact arcFrom_word B v n w hT hB hv
  have wv : IsW v := (wordB_iff v).1 hv
  by_cases hn : wt v = n
  · by_cases h0 : andI v (B : Int) = 0
    · rcases hth : thinB (B : Int) v with _ | _
      · exact arcFrom_thick B v n w hT hB wv hn h0 hth
      · unfold arcB at h
        rw [hb, hv, hth, decide_eq_true hn, decide_eq_true h0] at h
        exact absurd h (by decide)
    · exact arcFrom_pts B v n w hT hB wv (.inr h0)
  · exact arcFrom_pts B v n w hT hB wv (.inl hn)
set_option maxHeartbeats 2000000 in
theorem iPlaneOval_calls (b v : Int) (w : World) (hT : Tab3E w) :
    Calls Tryz.prog 21 #[.int .i64 b, .int .i64 v] w fun e w' => e = .returned (.bool (plOval b v)) ∧ Below w.heap.size w w' := by
  unfold plOval
  rcases h : arcB b v 6 with _ | _
  · have HA := Lib.hid (arcFrom_no b v 6 w hT h)
    clear h
    have HSZ := Lib.hid (VP_size (List.replicate 21 0) 0 (by simp))
    have HALL := Lib.hid (VP_all (List.replicate 21 0) 0)
    generalize VP (List.replicate 21 0) 0 = Z0 at *
    have HI := Lib.hid (show (Tryz.prog.info? 67).map (·.size) = some Z0.size by rw [HSZ.out]; exact plInfo)
    go_enter Tryz.func21, Tryz.ntmps21
    go_wp2_with fail
    refine HA.out.mono ?_
    rintro e w2 ⟨rfl, b2⟩
    go_wp2_with (refine wpList_store_row rfl 67 _ _ rfl w2.heap.size Z0 rfl rfl 67 _ (Blk.new w2 _ _) HI.out (by rw [HSZ.out]; rfl) HALL.out ?_)
    go_ret
    exact ⟨rfl, below_rowP (b2.alloc b2.size _) b2.size Z0⟩
  · obtain ⟨B, rfl, hB⟩ := baseB_nat (arc_parts h).1
    have HA := Lib.hid (arcFrom_yes B v 6 w hT hB h)
    clear h
    have HSZ := Lib.hid (VP_size (lns (B : Int)) (B : Int) (lns_len hB))
    have HALL := Lib.hid (VP_all (lns (B : Int)) (B : Int))
    generalize VP (lns (B : Int)) (B : Int) = T at *
    have HI := Lib.hid (show (Tryz.prog.info? 67).map (·.size) = some T.size by rw [HSZ.out]; exact plInfo)
    go_enter Tryz.func21, Tryz.ntmps21
    go_wp2_with fail
    refine HA.out.mono ?_
    rintro e w2 ⟨rfl, b2⟩
    go_wp2_with (refine wpList_store_row rfl 67 _ _ rfl w2.heap.size T rfl rfl 67 _ (Blk.new w2 _ _) HI.out (by rw [HSZ.out]; rfl) HALL.out ?_)
    go_ret
    exact ⟨rfl, below_rowP (b2.alloc b2.size _) b2.size T⟩
end Go.Proofs.YtmeejnkpaiinaacGreatDoor
/- The further points of four: furtherPoints, PlaneFour, PlaneSub of the program. -/
namespace Go.Proofs.YtmeejnkpaiinaacGreatDoor
open Go.RowKit
set_option linter.unusedVariables false
attribute [local irreducible] octS cN octF syn

theorem furTo_lt (w : Nat) (L : List Int) (hw : ∀ j, j < 21 → IsW (L.getD j 0)) : ∀ k, k ≤ 21 → (furTo w L k).1 < 16777216 ∧ (furTo w L k).2 < 16777216
  | 0, _ => by simp [furTo]
  | k + 1, hk => by
    obtain ⟨h1, h2⟩ := furTo_lt w L hw k (by omega)
    have h3 := hw k (by omega)
    have h4 : (L.getD k 0).toNat < 16777216 := by have := h3.1; have := h3.2; omega
    unfold furTo furStep
    generalize (L.getD k 0).toNat = x at *
    split
    · exact ⟨Nat.or_lt_two_pow (n := 24) h1 h4, Nat.or_lt_two_pow (n := 24) h2 (Nat.lt_of_le_of_lt Nat.and_le_left h1)⟩
    · exact ⟨h1, h2⟩
theorem fur_hit {w k : Nat} {L : List Int} {x : Nat} (h : L.getD k 0 = (x : Int)) (h2 : pop (x &&& w) = 2) : furTo w L (k + 1) = ((furTo w L k).1 ||| x, (furTo w L k).2 ||| ((furTo w L k).1 &&& x)) := by
  show furStep _ _ _ = _
  rw [h, Int.toNat_natCast]
  unfold furStep
  rw [if_pos h2]
theorem fur_miss {w k : Nat} {L : List Int} {x : Nat} (h : L.getD k 0 = (x : Int)) (h2 : ¬ pop (x &&& w) = 2) : furTo w L (k + 1) = furTo w L k := by
  show furStep _ _ _ = _
  rw [h, Int.toNat_natCast]
  unfold furStep
  rw [if_neg h2]
set_option maxRecDepth 100000 in
set_option maxHeartbeats 2000000 in
theorem further_calls (L : List Int) (hl : L.length = 21) (hw : ∀ j, j < 21 → IsW (L.getD j 0)) (v : Nat) (hv : v < 16777216) (w : World) :
    Calls Tryz.prog 79 #[.agg (V21 L), .int .u32 (v : Int)] w fun e w' => e = .returned (.int .u32 (((furTo v L 21).2 ^^^ ((furTo v L 21).2 &&& v) : Nat) : Int)) ∧ Below w.heap.size w w' := by
  have HI := Lib.hid (show (Tryz.prog.info? 65).map (·.size) = some (V21 L).size by rw [V21_size, hl]; exact llInfo)
  have HIDX := Lib.hid (fun k hk W => idx21 L hl k hk W)
  have HWL := Lib.hid hw
  have HLT := Lib.hid (furTo_lt v L hw)
  have HIT := Lib.hid (fun k x => @fur_hit v k L x)
  have HMISS := Lib.hid (fun k x => @fur_miss v k L x)
  have HZ := Lib.hid (show furTo v L 0 = (0, 0) from rfl)
  obtain ⟨R, hR⟩ : ∃ R, (furTo v L 21).2 ^^^ ((furTo v L 21).2 &&& v) = R := ⟨_, rfl⟩
  rw [hR]
  have HRR := Lib.hid hR
  clear hw hl hR
  generalize hV : V21 L = V at *
  clear hV
  go_enter Tryz.func79, Tryz.ntmps79
  go_wp2_with (first
    | (refine wpList_load_row rfl 65 _ rfl w.heap.size rfl 65 V (0, 0) _ (Blk.new w _ _) Tryz.underlying65 rfl HI.out ?_))
  go_loopw [6, 5, 10] (fun tw on i wr => ∃ k a b : Nat, k ≤ 21 ∧ tw = .int .u32 (b : Int) ∧ on = .int .u32 (a : Int) ∧ i = .int .i64 k ∧ Hid (furTo v L k = (a, b)) ∧ Hid (a < 16777216 ∧ b < 16777216) ∧ Hid (Below w.heap.size w wr)) (fun _ _ i _ => 21 - (intOf i).toNat)
  case atStart => exact ⟨0, 0, 0, by omega, rfl, rfl, rfl, HZ, Lib.hid (by omega), Lib.hid ((Below.refl _ w).alloc (Nat.le_refl _) _)⟩
  case round =>
    obtain ⟨k, a, b, hk, rfl, rfl, rfl, hf, hab, hb⟩ := hrel
    by_cases hlt : k < 21
    · have hidx := HIDX.out k hlt
      have wx := HWL.out k hlt
      have H1 := Lib.hid (HIT.out k)
      have H2 := Lib.hid (HMISS.out k)
      have H3 := Lib.hid (HLT.out (k + 1) (by omega))
      have hq1 : (0 : Int) ≤ (k : Int) := by omega
      have hq2 : (k : Int) < 21 := by omega
      obtain ⟨x, hx⟩ := Int.eq_ofNat_of_zero_le wx.1
      have hx0 := hx
      rw [hx] at wx hidx
      have hxl : x < 16777216 := by have := wx.2; omega
      have hmn : andI (x : Int) (v : Int) = ((x &&& v : Nat) : Int) := andI_nat x v
      have hmle : x &&& v ≤ x := Nat.and_le_left
      have HMT := Lib.hid (fun W => word_meet (x : Int) (v : Int) W (by omega) (by omega) (by omega) (by omega))
      rw [hmn] at HMT
      have HWT := Lib.hid (fun W => word_weight ((x &&& v : Nat) : Int) W (by omega) (by omega))
      rw [wt_pop] at HWT
      by_cases h2 : pop (x &&& v) = 2
      · have hnew := H1.out x hx0 h2
        rw [hf.out] at hnew
        dsimp only at hnew
        have hnl := H3.out
        rw [hnew] at hnl
        dsimp only at hnl
        have ha1 := hab.out.1
        have hb1 := hab.out.2
        have hale : a &&& x ≤ a := Nat.and_le_left
        have HM2 := Lib.hid (fun W => word_meet (a : Int) (x : Int) W (by omega) (by omega) (by omega) (by omega))
        rw [andI_nat] at HM2
        have ho1 : bits .or .u32 (b : Int) ((a &&& x : Nat) : Int) = ((b ||| (a &&& x) : Nat) : Int) := by rw [or_u32 _ _ (by omega) (by omega) (by omega) (by omega), orI_nat']
        have ho2 : bits .or .u32 (a : Int) (x : Int) = ((a ||| x : Nat) : Int) := by rw [or_u32 _ _ (by omega) (by omega) (by omega) (by omega), orI_nat']
        have HN := Lib.hid hnew
        have HNL := Lib.hid hnl
        rw [h2] at HWT
        clear hnew hnl hx hx0 H1 H2 H3 h2 hmn hale hmle
        generalize x &&& v = m at *
        generalize b ||| (a &&& x) = b' at *
        generalize a &&& x = y at *
        generalize a ||| x = a' at *
        go_wp2_with fail
        refine (HMT.out _).mono ?_
        rintro e w' ⟨rfl, rfl⟩
        go_wp2_with fail
        refine (HWT.out _).mono ?_
        rintro e w' ⟨rfl, kq, rfl⟩
        go_wp2_with fail
        refine (HM2.out _).mono ?_
        rintro e w' ⟨rfl, rfl⟩
        go_wp2_with fail
        go_roundw
        case rel => exact ⟨k + 1, a', b', by omega, by first | rfl | (simp [ho1]; done), by first | rfl | (simp [ho2]; done), by go_num, HN, HNL, Lib.hid (below_drewN hb.out _)⟩
        case measure => simp [intOf]; omega
      · have hnew := H2.out x hx0 h2
        rw [hf.out] at hnew
        have HN := Lib.hid hnew
        have hp2 : ((pop (x &&& v) : Nat) : Int) ≠ 2 := by omega
        have hp3 : (((pop (x &&& v) : Nat) : Int) == 2) = false := by simpa using hp2
        clear hnew hx hx0 H1 H2 H3 h2 hmn hmle hp2
        generalize pop (x &&& v) = t at *
        generalize x &&& v = m at *
        go_wp2_with fail
        refine (HMT.out _).mono ?_
        rintro e w' ⟨rfl, rfl⟩
        go_wp2_with fail
        refine (HWT.out _).mono ?_
        rintro e w' ⟨rfl, kq, rfl⟩
        go_wp2_with fail
        go_roundw
        case rel => exact ⟨k + 1, a, b, by omega, rfl, rfl, by go_num, HN, hab, Lib.hid (below_drewN hb.out _)⟩
        case measure => simp [intOf]; omega
    · obtain rfl : k = 21 := by omega
      have hr := HRR.out
      rw [hf.out] at hr
      dsimp only at hr
      have hb1 := hab.out.2
      have HL := Lib.hid (fun W => word_less (b : Int) (v : Int) W (by omega) (by omega) (by omega) (by omega))
      rw [show lessI (b : Int) (v : Int) = ((b ^^^ (b &&& v) : Nat) : Int) by unfold lessI; simp, hr] at HL
      go_wp2_with fail
      refine (HL.out _).mono ?_
      rintro e w' ⟨rfl, rfl⟩
      go_wp2_with fail
      go_ret
      exact ⟨rfl, hb.out⟩
/-- What the program finds is what the lines' common points are. -/
theorem fur_four {B v : Nat} (hB : IsBase B) (h : arcB (B : Int) (v : Int) 4 = true) : (((furTo v (lns (B : Int)) 21).2 ^^^ ((furTo v (lns (B : Int)) 21).2 &&& v) : Nat) : Int) = fourI (B : Int) (v : Int) ∧ IsW (fourI (B : Int) (v : Int)) ∧ andI (fourI (B : Int) (v : Int)) (v : Int) = 0 := by
  obtain ⟨_, hv, hn, h0, hth⟩ := arc_parts h
  have wv : IsW (v : Int) := (wordB_iff _).1 hv
  have hw : v < 16777216 := by have := wv.2; omega
  rw [wt_pop] at hn
  rw [andI_nat] at h0
  have ht : ∀ l, IsLine B l → pop (l &&& v) ≤ 2 := fun l hl => by
    unfold thinB at hth
    rw [List.all_eq_true] at hth
    have := hth _ ((lns_mem hB _).2 ⟨l, hl, rfl⟩)
    rw [decide_eq_true_eq, andI_nat, wt_pop] at this
    omega
  obtain ⟨p0, p1, p2, p3, hP, hwd, harc⟩ := arc_of hB hw (by omega) (by omega) ht
  obtain ⟨l01, l23, l02, l13, l03, l12, a, b, c, hF⟩ := harc.four
  have hl := (furTo_lt v (lns (B : Int)) (fun j hj => lns_W hB j hj) 21 (Nat.le_refl _)).2
  have e1 := fur_is hP hwd ht hF
  have e2 := fourI_is hP hF
  generalize (furTo v (lns (B : Int)) 21).2 = t at *
  rw [e2, ← e1]
  refine ⟨rfl, ⟨by omega, ?_⟩, ?_⟩
  · have := Nat.xor_lt_two_pow (n := 24) hl (Nat.lt_of_le_of_lt Nat.and_le_left hl : t &&& v < 2 ^ 24)
    omega
  · rw [andI_nat]
    have : (t ^^^ (t &&& v)) &&& v = 0 := Nat.eq_of_testBit_eq fun i => by
      rw [Nat.testBit_and, Nat.testBit_xor, Nat.testBit_and, Nat.zero_testBit]
      cases t.testBit i <;> cases v.testBit i <;> rfl
    rw [this]; rfl
theorem or_xor {a b : Int} (h : andI a b = 0) : orI a b = xorI a b := by
  unfold orI xorI
  unfold andI at h
  have h0 : a.toNat &&& b.toNat = 0 := by omega
  congr 1
  refine Nat.eq_of_testBit_eq fun i => ?_
  have := congrArg (fun z => z.testBit i) h0
  simp only [Nat.testBit_and, Nat.zero_testBit] at this
  rw [Nat.testBit_or, Nat.testBit_xor]
  cases ha : a.toNat.testBit i <;> cases hb : b.toNat.testBit i <;> simp_all
set_option maxRecDepth 100000 in
set_option maxHeartbeats 4000000 in
theorem iPlaneFour_calls (b v : Int) (w : World) (hT : Tab3E w) :
    Calls Tryz.prog 30 #[.int .i64 b, .int .i64 v] w fun e w' => e = .returned (.tuple #[.int .i64 (plFour b v).1, .bool (plFour b v).2]) ∧ Below w.heap.size w w' := by
  rcases h : arcB b v 4 with _ | _
  · rw [show plFour b v = (0, false) by unfold plFour; rw [h]; rfl]
    have HA := Lib.hid (arcFrom_no b v 4 w hT h)
    clear h
    have HSZ := Lib.hid (VP_size (List.replicate 21 0) 0 (by simp))
    have HALL := Lib.hid (VP_all (List.replicate 21 0) 0)
    generalize VP (List.replicate 21 0) 0 = Z0 at *
    have HI := Lib.hid (show (Tryz.prog.info? 67).map (·.size) = some Z0.size by rw [HSZ.out]; exact plInfo)
    go_enter Tryz.func30, Tryz.ntmps30
    go_wp2_with fail
    refine HA.out.mono ?_
    rintro e w2 ⟨rfl, b2⟩
    go_wp2_with (refine wpList_store_row rfl 67 _ _ rfl w2.heap.size Z0 rfl rfl 67 _ (Blk.new w2 _ _) HI.out (by rw [HSZ.out]; rfl) HALL.out ?_)
    go_ret2
    exact ⟨rfl, below_rowP (b2.alloc b2.size _) b2.size Z0⟩
  · obtain ⟨B, rfl, hB⟩ := baseB_nat (arc_parts h).1
    have wv : IsW v := (wordB_iff v).1 (arc_parts h).2.1
    obtain ⟨v, rfl⟩ := Int.eq_ofNat_of_zero_le wv.1
    obtain ⟨hf, wf, h0⟩ := fur_four hB h
    rw [show plFour (B : Int) (v : Int) = (fourI (B : Int) (v : Int), true) by unfold plFour; rw [h]; rfl]
    have HFU := Lib.hid (fun W => further_calls (lns (B : Int)) (lns_len hB) (fun j hj => lns_W hB j hj) v (by have := wv.2; omega) W)
    rw [hf] at HFU
    have HA := Lib.hid (arcFrom_yes B (v : Int) 4 w hT hB h)
    dsimp only
    have HSZ := Lib.hid (VP_size (lns (B : Int)) (B : Int) (lns_len hB))
    have HALL := Lib.hid (VP_all (lns (B : Int)) (B : Int))
    have HVP := Lib.hid (show VP (lns (B : Int)) (B : Int) = V21 (lns (B : Int)) ++ #[.int .u32 (B : Int)] from rfl)
    have HS21 := Lib.hid (show (Tryz.prog.info? 65).map (·.size) = some (V21 (lns (B : Int))).size by rw [V21_size, lns_len hB]; exact llInfo)
    clear h hf h0
    generalize VP (lns (B : Int)) (B : Int) = T at *
    generalize V21 (lns (B : Int)) = VL at *
    generalize fourI (B : Int) (v : Int) = F at *
    have HI := Lib.hid (show (Tryz.prog.info? 67).map (·.size) = some T.size by rw [HSZ.out]; exact plInfo)
    have hf0 := wf.1
    have hf1 := wf.2
    have hc0 : IntKind.i64.wrap F = F := by rw [IntKind.wrap_i64]; omega
    go_enter Tryz.func30, Tryz.ntmps30
    go_wp2_with fail
    refine HA.out.mono ?_
    rintro e w2 ⟨rfl, b2⟩
    go_wp2_with (first
      | (refine wpList_store_row rfl 67 _ _ rfl w2.heap.size T rfl rfl 67 _ (Blk.new w2 _ _) HI.out (by rw [HSZ.out]; rfl) HALL.out ?_; have hcg := setRow_heap (w2.alloc (.cells #[.int .u32 0, .int .u32 0, .int .u32 0, .int .u32 0, .int .u32 0, .int .u32 0, .int .u32 0, .int .u32 0, .int .u32 0, .int .u32 0, .int .u32 0, .int .u32 0, .int .u32 0, .int .u32 0, .int .u32 0, .int .u32 0, .int .u32 0, .int .u32 0, .int .u32 0, .int .u32 0, .int .u32 0, .int .u32 0] 67)) w2.heap.size _ T 67 (0, 0) (Blk.new w2 _ _); have hb3 := below_rowP (b2.alloc b2.size (.cells #[.int .u32 0, .int .u32 0, .int .u32 0, .int .u32 0, .int .u32 0, .int .u32 0, .int .u32 0, .int .u32 0, .int .u32 0, .int .u32 0, .int .u32 0, .int .u32 0, .int .u32 0, .int .u32 0, .int .u32 0, .int .u32 0, .int .u32 0, .int .u32 0, .int .u32 0, .int .u32 0, .int .u32 0, .int .u32 0] 67)) b2.size T; have hcg := hcg.trans (show some (Obj.cells T 67 (0, 0)) = some (.cells (VL ++ #[.int .u32 (B : Int)]) 67 (0, 0)) by rw [HVP.out]); generalize (w2.alloc (.cells #[.int .u32 0, .int .u32 0, .int .u32 0, .int .u32 0, .int .u32 0, .int .u32 0, .int .u32 0, .int .u32 0, .int .u32 0, .int .u32 0, .int .u32 0, .int .u32 0, .int .u32 0, .int .u32 0, .int .u32 0, .int .u32 0, .int .u32 0, .int .u32 0, .int .u32 0, .int .u32 0, .int .u32 0, .int .u32 0] 67)).setRow w2.heap.size T = w3 at *; have HCG := Lib.hid hcg; have HB3 := Lib.hid hb3; clear hcg hb3)
      | (refine wpList_load_part rfl 65 _ rfl w2.heap.size rfl 67 VL #[.int .u32 (B : Int)] (0, 0) _ HCG.out Tryz.underlying65 rfl HS21.out ?_))
    refine (HFU.out _).mono ?_
    rintro e w4 ⟨rfl, b4⟩
    have HB4 := Lib.hid (HB3.out.trans (b4.mono HB3.out.size))
    clear b4
    go_wp2_with fail
    go_ret2
    exact ⟨rfl, HB4.out⟩
set_option maxRecDepth 100000 in
set_option maxHeartbeats 4000000 in
theorem iPlaneSub_calls (b v : Int) (w : World) (hT : Tab3E w) :
    Calls Tryz.prog 35 #[.int .i64 b, .int .i64 v] w fun e w' => e = .returned (.tuple #[.int .i64 (plSub b v).1, .bool (plSub b v).2]) ∧ Below w.heap.size w w' := by
  rcases h : arcB b v 4 with _ | _
  · rw [show plSub b v = (0, false) by unfold plSub; rw [h]; rfl]
    have HA := Lib.hid (arcFrom_no b v 4 w hT h)
    clear h
    have HSZ := Lib.hid (VP_size (List.replicate 21 0) 0 (by simp))
    have HALL := Lib.hid (VP_all (List.replicate 21 0) 0)
    generalize VP (List.replicate 21 0) 0 = Z0 at *
    have HI := Lib.hid (show (Tryz.prog.info? 67).map (·.size) = some Z0.size by rw [HSZ.out]; exact plInfo)
    go_enter Tryz.func35, Tryz.ntmps35
    go_wp2_with fail
    refine HA.out.mono ?_
    rintro e w2 ⟨rfl, b2⟩
    go_wp2_with (refine wpList_store_row rfl 67 _ _ rfl w2.heap.size Z0 rfl rfl 67 _ (Blk.new w2 _ _) HI.out (by rw [HSZ.out]; rfl) HALL.out ?_)
    go_ret2
    exact ⟨rfl, below_rowP (b2.alloc b2.size _) b2.size Z0⟩
  · obtain ⟨B, rfl, hB⟩ := baseB_nat (arc_parts h).1
    have wv : IsW v := (wordB_iff v).1 (arc_parts h).2.1
    obtain ⟨v, rfl⟩ := Int.eq_ofNat_of_zero_le wv.1
    obtain ⟨hf, wf, h0⟩ := fur_four hB h
    rw [show plSub (B : Int) (v : Int) = (xorI (fourI (B : Int) (v : Int)) (v : Int), true) by unfold plSub; rw [h, or_xor h0]; rfl]
    have HFU := Lib.hid (fun W => further_calls (lns (B : Int)) (lns_len hB) (fun j hj => lns_W hB j hj) v (by have := wv.2; omega) W)
    rw [hf] at HFU
    have HA := Lib.hid (arcFrom_yes B (v : Int) 4 w hT hB h)
    have HAD := Lib.hid (fun W => word_add (fourI (B : Int) (v : Int)) (v : Int) W wf.1 wf.2 wv.1 wv.2)
    have hxw : IntKind.i64.wrap (xorI (fourI (B : Int) (v : Int)) (v : Int)) = xorI (fourI (B : Int) (v : Int)) (v : Int) := by
      have h1 := xorI_nonneg (fourI (B : Int) (v : Int)) (v : Int)
      have h2 := xorI_le (fourI (B : Int) (v : Int)) (v : Int) wf.2 wv.2
      rw [IntKind.wrap_i64]; omega
    generalize xorI (fourI (B : Int) (v : Int)) (v : Int) = X at *
    dsimp only
    have HSZ := Lib.hid (VP_size (lns (B : Int)) (B : Int) (lns_len hB))
    have HALL := Lib.hid (VP_all (lns (B : Int)) (B : Int))
    have HVP := Lib.hid (show VP (lns (B : Int)) (B : Int) = V21 (lns (B : Int)) ++ #[.int .u32 (B : Int)] from rfl)
    have HS21 := Lib.hid (show (Tryz.prog.info? 65).map (·.size) = some (V21 (lns (B : Int))).size by rw [V21_size, lns_len hB]; exact llInfo)
    clear h hf h0
    generalize VP (lns (B : Int)) (B : Int) = T at *
    generalize V21 (lns (B : Int)) = VL at *
    generalize fourI (B : Int) (v : Int) = F at *
    have HI := Lib.hid (show (Tryz.prog.info? 67).map (·.size) = some T.size by rw [HSZ.out]; exact plInfo)
    have hf0 := wf.1
    have hf1 := wf.2
    have hc0 : IntKind.i64.wrap F = F := by rw [IntKind.wrap_i64]; omega
    go_enter Tryz.func35, Tryz.ntmps35
    go_wp2_with fail
    refine HA.out.mono ?_
    rintro e w2 ⟨rfl, b2⟩
    go_wp2_with (first
      | (refine wpList_store_row rfl 67 _ _ rfl w2.heap.size T rfl rfl 67 _ (Blk.new w2 _ _) HI.out (by rw [HSZ.out]; rfl) HALL.out ?_; have hcg := setRow_heap (w2.alloc (.cells #[.int .u32 0, .int .u32 0, .int .u32 0, .int .u32 0, .int .u32 0, .int .u32 0, .int .u32 0, .int .u32 0, .int .u32 0, .int .u32 0, .int .u32 0, .int .u32 0, .int .u32 0, .int .u32 0, .int .u32 0, .int .u32 0, .int .u32 0, .int .u32 0, .int .u32 0, .int .u32 0, .int .u32 0, .int .u32 0] 67)) w2.heap.size _ T 67 (0, 0) (Blk.new w2 _ _); have hb3 := below_rowP (b2.alloc b2.size (.cells #[.int .u32 0, .int .u32 0, .int .u32 0, .int .u32 0, .int .u32 0, .int .u32 0, .int .u32 0, .int .u32 0, .int .u32 0, .int .u32 0, .int .u32 0, .int .u32 0, .int .u32 0, .int .u32 0, .int .u32 0, .int .u32 0, .int .u32 0, .int .u32 0, .int .u32 0, .int .u32 0, .int .u32 0, .int .u32 0] 67)) b2.size T; have hcg := hcg.trans (show some (Obj.cells T 67 (0, 0)) = some (.cells (VL ++ #[.int .u32 (B : Int)]) 67 (0, 0)) by rw [HVP.out]); generalize (w2.alloc (.cells #[.int .u32 0, .int .u32 0, .int .u32 0, .int .u32 0, .int .u32 0, .int .u32 0, .int .u32 0, .int .u32 0, .int .u32 0, .int .u32 0, .int .u32 0, .int .u32 0, .int .u32 0, .int .u32 0, .int .u32 0, .int .u32 0, .int .u32 0, .int .u32 0, .int .u32 0, .int .u32 0, .int .u32 0, .int .u32 0] 67)).setRow w2.heap.size T = w3 at *; have HCG := Lib.hid hcg; have HB3 := Lib.hid hb3; clear hcg hb3)
      | (refine wpList_load_part rfl 65 _ rfl w2.heap.size rfl 67 VL #[.int .u32 (B : Int)] (0, 0) _ HCG.out Tryz.underlying65 rfl HS21.out ?_))
    refine (HFU.out _).mono ?_
    rintro e w4 ⟨rfl, b4⟩
    have HB4 := Lib.hid (HB3.out.trans (b4.mono HB3.out.size))
    clear b4
    go_wp2_with fail
    refine (HAD.out _).mono ?_
    rintro e w' ⟨rfl, rfl⟩
    go_wp2_with fail
    go_ret2
    exact ⟨rfl, HB4.out⟩
end Go.Proofs.YtmeejnkpaiinaacGreatDoor