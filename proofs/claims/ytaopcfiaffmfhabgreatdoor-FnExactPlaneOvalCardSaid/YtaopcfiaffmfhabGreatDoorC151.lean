/- Planes of the model: lines through two points, through one, arcs; PlaneLine, PlaneOn. -/
import Derived.Test.YtaopcfiaffmfhabGreatDoorC93
import Derived.Test.YtaopcfiaffmfhabGreatDoorC91
import Derived.Test.YtaopcfiaffmfhabGreatDoorQ4
namespace Go.Proofs.YtaopcfiaffmfhabGreatDoor
open Go.RowKit
set_option linter.unusedVariables false
attribute [local irreducible] octS cN octF syn

theorem no_hit {P : Int → Bool} {L : List Int} (h : ∀ j, j < L.length → P (L.getD j 0) = false) : L.filter P = [] := by
  rw [List.filter_eq_nil_iff]
  intro a ha
  obtain ⟨j, hj, rfl⟩ := List.getElem_of_mem ha
  have := h j hj
  rw [← getD_at _ j hj] at this
  rw [this]; exact Bool.false_ne_true
theorem first_hit {P : Int → Bool} {L : List Int} {k : Nat} (hk : k < L.length) (h : ∀ j, j < k → P (L.getD j 0) = false) (hp : P (L.getD k 0) = true) : (L.filter P).getD 0 0 = L.getD k 0 := by
  have e : (L.take k).filter P = [] := no_hit fun j hj => by
    have hj' : j < k := by rw [List.length_take] at hj; omega
    have : (L.take k).getD j 0 = L.getD j 0 := by
      rw [List.getD_eq_getElem?_getD, List.getD_eq_getElem?_getD, List.getElem?_take_of_lt hj']
    rw [this]; exact h j hj'
  conv => lhs; rw [← List.take_append_drop k L]
  rw [List.filter_append, e, List.nil_append, List.drop_eq_getElem_cons hk]
  rw [← getD_at _ k hk] at hp
  rw [List.filter_cons_of_pos hp, List.getD_cons_zero, getD_at _ k hk]
theorem ptB_no {b p : Int} (h : p < 0 ∨ 23 < p) : ptB b p = false := by
  unfold ptB
  rw [decide_eq_false (by omega), Bool.false_and]
theorem ptB_in {b p : Int} (h0 : 0 ≤ p) (h1 : p ≤ 23) : ptB b p = (bitI b p == 0) := by
  unfold ptB
  rw [decide_eq_true (⟨h0, h1⟩ : 0 ≤ p ∧ p ≤ 23), Bool.true_and]
  rw [Bool.eq_iff_iff, decide_eq_true_eq, beq_iff_eq]
theorem l6pPoint_calls (b p : Int) (w : World) : Calls Tryz.prog 22 #[.int .i64 b, .int .i64 p] w fun e w' => e = .returned (.bool (ptB b p)) ∧ w = w' := by
  by_cases h : 0 ≤ p ∧ p ≤ 23
  · rw [ptB_in h.1 h.2]
    have H1 := Lib.hid (fun W => l6In_ok p 0 23 W h.1 h.2)
    have H2 := Lib.hid (fun W => l1Bit_calls b p W h.1 (by omega))
    clear h
    generalize bitI b p = x at *
    go_enter Tryz.func22, Tryz.ntmps22
    go_wp2_with fail
    refine (H1.out _).mono ?_
    rintro e w' ⟨rfl, rfl⟩
    go_wp2_with fail
    refine (H2.out _).mono ?_
    rintro e w' ⟨rfl, rfl⟩
    go_wp2_with fail
    go_ret
    exact ⟨rfl, rfl⟩
  · have h2 : p < 0 ∨ 23 < p := by omega
    rw [ptB_no h2]
    have H1 := Lib.hid (fun W => l6In_no p 0 23 W h2)
    clear h h2
    go_enter Tryz.func22, Tryz.ntmps22
    go_wp2_with fail
    refine (H1.out _).mono ?_
    rintro e w' ⟨rfl, rfl⟩
    go_wp2_with fail
    go_ret
    exact ⟨rfl, rfl⟩
set_option maxHeartbeats 1000000 in
theorem l6pThrough_calls (L : List Int) (A : Option Addr) (c : Nat) (p q : Nat) (w : World) (hp : p < 24) (hq : q < 24) (hl : L.length ≤ 4096) (hW : ∀ j, j < L.length → IsW (L.getD j 0)) (hr : Rds w w.heap.size .i64 A L) :
    Calls Tryz.prog 23 #[.slice A L.length c, .int .i64 (p : Int), .int .i64 (q : Int)] w fun e w' => e = .returned (.int .i64 (thruI L (powI (p : Int) + powI (q : Int)))) ∧ ∃ k, w' = w.drewN k := by
  have HR := Lib.hid hr
  have HW := Lib.hid hW
  have p1 := powI_pos (p : Int)
  have p2 := powI_le (p : Int) (by omega) (by omega)
  have q1 := powI_pos (q : Int)
  have q2 := powI_le (q : Int) (by omega) (by omega)
  have HPP := Lib.hid (show (2 : Int) ^ p = powI (p : Int) by simp [powI])
  have HQQ := Lib.hid (show (2 : Int) ^ q = powI (q : Int) by simp [powI])
  have hp0 : (0 : Int) ≤ (p : Int) := by omega
  have hp9 : (p : Int) < 24 := by omega
  have hq0 : (0 : Int) ≤ (q : Int) := by omega
  have hq9 : (q : Int) < 24 := by omega
  have HA := Lib.hid (fun x (hx : IsW x) => show bits .and .i64 x (powI (p : Int) + powI (q : Int)) = andI x (powI (p : Int) + powI (q : Int)) from and_i64 x _ hx.1 (by have := hx.2; omega) (by omega) (by omega))
  have w1 : IntKind.i64.wrap (2 ^ p) = powI (p : Int) := by rw [HPP.out]; exact wrap_i64_in _ (by omega) (by omega)
  have w2 : IntKind.i64.wrap (2 ^ q) = powI (q : Int) := by rw [HQQ.out]; exact wrap_i64_in _ (by omega) (by omega)
  have HH := Lib.hid (fun k (hk : k < L.length) (h : ∀ j, j < k → hasB (powI (p : Int) + powI (q : Int)) (L.getD j 0) = false) (hp : hasB (powI (p : Int) + powI (q : Int)) (L.getD k 0) = true) => show thruI L (powI (p : Int) + powI (q : Int)) = L.getD k 0 from first_hit hk h hp)
  have HN := Lib.hid (fun (h : ∀ j, j < L.length → hasB (powI (p : Int) + powI (q : Int)) (L.getD j 0) = false) => show thruI L (powI (p : Int) + powI (q : Int)) = 0 by unfold thruI; rw [no_hit h]; rfl)
  generalize thruI L (powI (p : Int) + powI (q : Int)) = R at *
  obtain ⟨n, hn⟩ : ∃ n, L.length = n := ⟨_, rfl⟩
  rw [hn] at HH HN HW hl ⊢
  have HLEN := Lib.hid hn
  clear hn hr hW
  go_enter Tryz.func23, Tryz.ntmps23
  go_wp2_with fail
  go_quiet (fail)
  go_wp2_with fail
  obtain ⟨W0, hW0⟩ : ∃ W0, W0 = w.drewN nq := ⟨_, rfl⟩
  have HR0 : Rds W0 w.heap.size .i64 A L := by rw [hW0]; exact HR.out.drewN nq
  have HR0 := Lib.hid HR0
  have HEND := Lib.hid (show ∃ k, W0 = w.drewN k from ⟨nq, hW0⟩)
  rw [← hW0]
  clear hW0 HR HPP HQQ w1 w2 p1 p2 q1 q2
  generalize powI (p : Int) + powI (q : Int) = both at *
  go_loopw [8] (fun i wr => ∃ k : Nat, k ≤ n ∧ i = .int .i64 k ∧ Hid (wr = W0 ∧ ∀ j, j < k → hasB both (L.getD j 0) = false)) (fun i _ => n - (intOf i).toNat)
  case atStart => exact ⟨0, by omega, rfl, Lib.hid ⟨rfl, fun j h => absurd h (by omega)⟩⟩
  case round =>
    obtain ⟨k, hk, rfl, hh⟩ := hrel
    obtain ⟨hw, hnn⟩ := hh.out
    subst hw
    by_cases hlt : k < n
    · obtain ⟨bb, o, rfl, hb1, hc⟩ := HR0.out.at_ (j := k) (by rw [HLEN.out]; exact hlt)
      have hxw := HW.out k hlt
      have hand := HA.out _ hxw
      have HY1 := Lib.hid (HH.out k hlt hnn)
      have HN1 := Lib.hid (fun (h : hasB both (L.getD k 0) = false) j (hj : j < k + 1) => show hasB both (L.getD j 0) = false by
        rcases (by omega : j < k ∨ j = k) with h1 | h1
        · exact hnn j h1
        · rw [h1]; exact h)
      have hq1 : (0 : Int) ≤ (k : Int) := by omega
      have hq2 : (k : Int) < (n : Int) := by omega
      clear hnn hh
      generalize L.getD k 0 = z at *
      rcases hcase : hasB both z with _ | _
      · have HD := Lib.hid (HN1.out hcase)
        have hce : (andI z both == both) = false := hcase
        clear HN1 HY1 hcase
        generalize andI z both = m at *
        go_wp2_with fail
        go_roundw
        case rel => exact ⟨k + 1, by omega, by go_num, Lib.hid ⟨by first | exact rfl | trivial, HD.out⟩⟩
        case measure => simp [intOf]; omega
      · have hcc := HY1.out hcase
        have hce : (andI z both == both) = true := hcase
        clear HN1 HY1 hcase
        generalize andI z both = m at *
        subst hcc
        go_wp2_with fail
        go_ret
        exact ⟨rfl, HEND.out⟩
    · obtain rfl : k = n := by omega
      have hcc := HN.out hnn
      subst hcc
      clear hnn hh
      go_wp2_with fail
      go_ret
      exact ⟨rfl, HEND.out⟩
theorem l6pThrough_int (L : List Int) (A : Option Addr) (c : Nat) (p q : Int) (w : World) (hp : 0 ≤ p ∧ p ≤ 23) (hq : 0 ≤ q ∧ q ≤ 23) (hl : L.length ≤ 4096) (hW : ∀ j, j < L.length → IsW (L.getD j 0)) (hr : Rds w w.heap.size .i64 A L) :
    Calls Tryz.prog 23 #[.slice A L.length c, .int .i64 p, .int .i64 q] w fun e w' => e = .returned (.int .i64 (thruI L (powI p + powI q))) ∧ ∃ k, w' = w.drewN k := by
  obtain ⟨p', rfl⟩ := Int.eq_ofNat_of_zero_le hp.1
  obtain ⟨q', rfl⟩ := Int.eq_ofNat_of_zero_le hq.1
  exact l6pThrough_calls L A c p' q' w (by omega) (by omega) hl hW hr
set_option maxHeartbeats 1000000 in
theorem l6pThin_calls (L : List Int) (A : Option Addr) (c : Nat) (v : Int) (w : World) (hv : IsW v) (hl : L.length ≤ 4096) (hW : ∀ j, j < L.length → IsW (L.getD j 0)) (hr : Rds w w.heap.size .i64 A L) :
    Calls Tryz.prog 31 #[.slice A L.length c, .int .i64 v] w fun e w' => e = .returned (.bool (L.all fun x => decide (wt (andI x v) ≤ 2))) ∧ w = w' := by
  have HR := Lib.hid hr
  have HW := Lib.hid hW
  have HA := Lib.hid (fun x (hx : IsW x) => show bits .and .i64 x v = andI x v from and_i64 x _ hx.1 (by have := hx.2; omega) hv.1 (by have := hv.2; omega))
  have HY := Lib.hid (fun k (hk : k < L.length) (h : ¬ wt (andI (L.getD k 0) v) ≤ 2) => show (L.all fun x => decide (wt (andI x v) ≤ 2)) = false by
    rw [List.all_eq_false]
    refine ⟨L[k], List.getElem_mem hk, ?_⟩
    rw [getD_at _ k hk]
    simpa using h)
  have HN := Lib.hid (fun (h : ∀ j, j < L.length → wt (andI (L.getD j 0) v) ≤ 2) => show (L.all fun x => decide (wt (andI x v) ≤ 2)) = true by
    rw [List.all_eq_true]
    intro x hx
    obtain ⟨j, hj, rfl⟩ := List.getElem_of_mem hx
    have := h j hj
    rw [getD_at _ j hj]
    simpa using this)
  generalize (L.all fun x => decide (wt (andI x v) ≤ 2)) = cc at *
  obtain ⟨n, hn⟩ : ∃ n, L.length = n := ⟨_, rfl⟩
  rw [hn] at HY HN HW hl ⊢
  have HLEN := Lib.hid hn
  clear hn hr hW
  go_enter Tryz.func31, Tryz.ntmps31
  go_wp2_with fail
  go_loopw [5] (fun i wr => ∃ k : Nat, k ≤ n ∧ i = .int .i64 k ∧ Hid (wr = w ∧ ∀ j, j < k → wt (andI (L.getD j 0) v) ≤ 2)) (fun i _ => n - (intOf i).toNat)
  case atStart => exact ⟨0, by omega, rfl, Lib.hid ⟨rfl, fun j h => absurd h (by omega)⟩⟩
  case round =>
    obtain ⟨k, hk, rfl, hh⟩ := hrel
    obtain ⟨hw, hnn⟩ := hh.out
    subst hw
    by_cases hlt : k < n
    · obtain ⟨bb, o, rfl, hb1, hc⟩ := HR.out.at_ (j := k) (by rw [HLEN.out]; exact hlt)
      have hxw := HW.out k hlt
      have hand := HA.out _ hxw
      have HY1 := Lib.hid (HY.out k hlt)
      have HN1 := Lib.hid (fun (h : wt (andI (L.getD k 0) v) ≤ 2) j (hj : j < k + 1) => show wt (andI (L.getD j 0) v) ≤ 2 by
        rcases (by omega : j < k ∨ j = k) with h1 | h1
        · exact hnn j h1
        · rw [h1]; exact h)
      have hq1 : (0 : Int) ≤ (k : Int) := by omega
      have hq2 : (k : Int) < (n : Int) := by omega
      clear hnn hh
      generalize L.getD k 0 = z at *
      have HWT := Lib.hid (fun W => l1Weight_calls (andI z v) W)
      generalize andI z v = m at *
      by_cases hx : wt m ≤ 2
      · have HD := Lib.hid (HN1.out hx)
        clear HN1 HY1
        generalize wt m = t at *
        go_wp2_with fail
        refine (HWT.out _).mono ?_
        rintro e w' ⟨rfl, rfl⟩
        go_wp2_with fail
        go_roundw
        case rel => exact ⟨k + 1, by omega, by go_num, Lib.hid ⟨by first | exact rfl | trivial, HD.out⟩⟩
        case measure => simp [intOf]; omega
      · have hcc := HY1.out (by omega)
        subst hcc
        clear HN1 HY1
        have hx2 : 2 < wt m := by omega
        generalize wt m = t at *
        go_wp2_with fail
        refine (HWT.out _).mono ?_
        rintro e w' ⟨rfl, rfl⟩
        go_wp2_with fail
        go_ret
        exact ⟨rfl, rfl⟩
    · obtain rfl : k = n := by omega
      have hcc := HN.out hnn
      subst hcc
      clear hnn hh
      go_wp2_with fail
      go_ret
      exact ⟨rfl, rfl⟩
theorem plLine_yes {b p q : Int} (h : baseB b = true) (h1 : ptB b p = true) (h2 : ptB b q = true) (h3 : p ≠ q) : plLine b p q = (thruI (lns b) (powI p + powI q), true) := by
  unfold plLine
  rw [h, h1, h2, decide_eq_true h3]; rfl
set_option maxHeartbeats 2000000 in
theorem sPlaneLine_calls (b p q : Int) (w : World) :
    Calls Tryz.prog 8 #[.int .i64 b, .int .i64 p, .int .i64 q] w fun e w' => e = .returned (.tuple #[.int .i64 (plLine b p q).1, .bool (plLine b p q).2]) ∧ Below w.heap.size w w' := by
  rcases hb : baseB b with _ | _
  · rw [show plLine b p q = (0, false) by simp [plLine, hb]]
    have HN := Lib.hid (l6pBase_no b hb)
    clear hb
    go_enter Tryz.func8, Tryz.ntmps8
    go_wp2_with (go_at_call 21; refine (HN.out _).mono ?_; rintro e w' ⟨rfl, rfl⟩)
    go_ret2
    exact ⟨rfl, Below.refl _ _⟩
  have HN := Lib.hid (l6pBase_yes b hb)
  have HP := Lib.hid (fun W => l6pPoint_calls b p W)
  have HQ := Lib.hid (fun W => l6pPoint_calls b q W)
  rcases h1 : ptB b p with _ | _
  · rw [show plLine b p q = (0, false) by simp [plLine, h1]]
    rw [h1] at HP
    clear hb h1
    go_enter Tryz.func8, Tryz.ntmps8
    go_wp2_with fail
    refine (HN.out _).mono ?_
    rintro e w' ⟨rfl, rfl⟩
    go_wp2_with fail
    refine (HP.out _).mono ?_
    rintro e w' ⟨rfl, rfl⟩
    go_wp2_with fail
    go_ret2
    exact ⟨rfl, Below.refl _ _⟩
  rcases h2 : ptB b q with _ | _
  · rw [show plLine b p q = (0, false) by simp [plLine, h2]]
    rw [h1] at HP
    rw [h2] at HQ
    clear hb h1 h2
    go_enter Tryz.func8, Tryz.ntmps8
    go_wp2_with fail
    refine (HN.out _).mono ?_
    rintro e w' ⟨rfl, rfl⟩
    go_wp2_with fail
    refine (HP.out _).mono ?_
    rintro e w' ⟨rfl, rfl⟩
    go_wp2_with fail
    refine (HQ.out _).mono ?_
    rintro e w' ⟨rfl, rfl⟩
    go_wp2_with fail
    go_ret2
    exact ⟨rfl, Below.refl _ _⟩
  rw [h1] at HP
  rw [h2] at HQ
  by_cases hpq : p = q
  · rw [show plLine b p q = (0, false) by simp [plLine, hpq]]
    subst hpq
    clear hb h1 h2
    go_enter Tryz.func8, Tryz.ntmps8
    go_wp2_with fail
    refine (HN.out _).mono ?_
    rintro e w' ⟨rfl, rfl⟩
    go_wp2_with fail
    refine (HP.out _).mono ?_
    rintro e w' ⟨rfl, rfl⟩
    go_wp2_with fail
    refine (HQ.out _).mono ?_
    rintro e w' ⟨rfl, rfl⟩
    go_wp2_with fail
    go_ret2
    exact ⟨rfl, Below.refl _ _⟩
  · rw [plLine_yes hb h1 h2 hpq]
    obtain ⟨B, rfl, hB⟩ := baseB_nat hb
    obtain ⟨p, rfl, hp, _⟩ := ptB_nat h1
    obtain ⟨q, rfl, hq, _⟩ := ptB_nat h2
    have hpqb : ((p : Int) == (q : Int)) = false := by simpa using hpq
    have HLS := Lib.hid (l6pLines_calls B hB)
    have HLEN := Lib.hid (lns_len hB)
    have HTH := Lib.hid (fun A c W hr => l6pThrough_calls (lns (B : Int)) A c p q W hp hq (by rw [lns_len hB]; decide) (fun j hj => lns_W hB j (by rw [lns_len hB] at hj; exact hj)) hr)
    rw [lns_len hB] at HTH
    dsimp only
    clear hb h1 h2 hpq
    generalize thruI (lns (B : Int)) (powI (p : Int) + powI (q : Int)) = t at *
    generalize lns (B : Int) = L at *
    generalize (B : Int) = b at *
    go_enter Tryz.func8, Tryz.ntmps8
    go_wp2_with fail
    refine (HN.out _).mono ?_
    rintro e w' ⟨rfl, rfl⟩
    go_wp2_with fail
    refine (HP.out _).mono ?_
    rintro e w' ⟨rfl, rfl⟩
    go_wp2_with fail
    refine (HQ.out _).mono ?_
    rintro e w' ⟨rfl, rfl⟩
    go_wp2_with fail
    refine (HLS.out _).mono ?_
    rintro e w1 ⟨v, rfl, o1, b1⟩
    obtain ⟨A1, c1, rfl⟩ := o1.slice
    rw [HLEN.out]
    go_wp2_with fail
    refine (HTH.out _ _ _ o1.rds).mono ?_
    rintro e w' ⟨rfl, kq, rfl⟩
    go_wp2_with fail
    go_ret2
    exact ⟨rfl, by first | exact b1.drew | exact below_drewN b1 _⟩
theorem arcB_base {b w n : Int} (h : baseB b = false) : arcB b w n = false := by unfold arcB; rw [h]; rfl
theorem arcB_word {b w n : Int} (h : wordB w = false) : arcB b w n = false := by unfold arcB; rw [h, Bool.false_and, Bool.and_false]
theorem arcB_wt {b w n : Int} (h : ¬ wt w = n) : arcB b w n = false := by unfold arcB; rw [decide_eq_false h, Bool.false_and, Bool.and_false, Bool.and_false]
theorem arcB_and {b w n : Int} (h : ¬ andI w b = 0) : arcB b w n = false := by unfold arcB; rw [decide_eq_false h, Bool.false_and, Bool.and_false, Bool.and_false, Bool.and_false]
theorem arcB_thin {b w n : Int} (h : baseB b = true) (h1 : wordB w = true) (h2 : wt w = n) (h3 : andI w b = 0) : arcB b w n = thinB b w := by unfold arcB; rw [h, h1, decide_eq_true h2, decide_eq_true h3]; simp
set_option maxHeartbeats 2000000 in
theorem sPlaneOval_calls (b v : Int) (w : World) :
    Calls Tryz.prog 15 #[.int .i64 b, .int .i64 v] w fun e w' => e = .returned (.bool (plOval b v)) ∧ Below w.heap.size w w' := by
  unfold plOval
  rcases hb : baseB b with _ | _
  · rw [arcB_base hb]
    have HN := Lib.hid (l6pBase_no b hb)
    clear hb
    go_enter Tryz.func15, Tryz.ntmps15
    go_wp2_with fail
    refine (HN.out _).mono ?_
    rintro e w' ⟨rfl, rfl⟩
    go_wp2_with fail
    go_ret
    exact ⟨rfl, Below.refl _ _⟩
  have HN := Lib.hid (l6pBase_yes b hb)
  rcases hv : wordB v with _ | _
  · rw [arcB_word hv]
    have HV := Lib.hid (fun W => sWordValid_no v W ((wordB_no v).1 hv))
    clear hb hv
    go_enter Tryz.func15, Tryz.ntmps15
    go_wp2_with fail
    refine (HN.out _).mono ?_
    rintro e w' ⟨rfl, rfl⟩
    go_wp2_with fail
    refine (HV.out _).mono ?_
    rintro e w' ⟨rfl, rfl⟩
    go_wp2_with fail
    go_ret
    exact ⟨rfl, Below.refl _ _⟩
  have wv : IsW v := (wordB_iff v).1 hv
  have HV := Lib.hid (fun W => sWordValid_ok v W wv.1 wv.2)
  have HWT := Lib.hid (fun W => l1Weight_calls v W)
  by_cases h6 : wt v = 6
  · obtain ⟨B, rfl, hB⟩ := baseB_nat hb
    have hB0 := hB.1
    have hand : bits .and .i64 v (B : Int) = andI v (B : Int) := and_i64 v (B : Int) wv.1 (by have := wv.2; omega) (by omega) (by omega)
    rw [h6] at HWT
    by_cases h0 : andI v (B : Int) = 0
    · rw [arcB_thin hb hv h6 h0]
      rw [h0] at hand
      have HLS := Lib.hid (l6pLines_calls B hB)
      have HLEN := Lib.hid (lns_len hB)
      have HTH := Lib.hid (fun A c W hr => l6pThin_calls (lns (B : Int)) A c v W wv (by rw [lns_len hB]; decide) (fun j hj => lns_W hB j (by rw [lns_len hB] at hj; exact hj)) hr)
      rw [show ((lns (B : Int)).all fun x => decide (wt (andI x v) ≤ 2)) = thinB (B : Int) v from rfl, lns_len hB] at HTH
      clear hb hv h6 h0
      generalize thinB (B : Int) v = t at *
      generalize lns (B : Int) = L at *
      generalize (B : Int) = b at *
      go_enter Tryz.func15, Tryz.ntmps15
      go_wp2_with fail
      refine (HN.out _).mono ?_
      rintro e w' ⟨rfl, rfl⟩
      go_wp2_with fail
      refine (HV.out _).mono ?_
      rintro e w' ⟨rfl, rfl⟩
      go_wp2_with fail
      refine (HWT.out _).mono ?_
      rintro e w' ⟨rfl, rfl⟩
      go_wp2_with fail
      refine (HLS.out _).mono ?_
      rintro e w1 ⟨v1, rfl, o1, b1⟩
      obtain ⟨A1, c1, rfl⟩ := o1.slice
      rw [HLEN.out]
      go_wp2_with fail
      refine (HTH.out _ _ _ o1.rds).mono ?_
      rintro e w' ⟨rfl, rfl⟩
      go_wp2_with fail
      go_ret
      exact ⟨rfl, b1⟩
    · rw [arcB_and h0]
      have h01 : (andI v (B : Int) == 0) = false := by simpa using h0
      clear hb hv h6 h0
      generalize andI v (B : Int) = m at *
      generalize (B : Int) = b at *
      go_enter Tryz.func15, Tryz.ntmps15
      go_wp2_with fail
      refine (HN.out _).mono ?_
      rintro e w' ⟨rfl, rfl⟩
      go_wp2_with fail
      refine (HV.out _).mono ?_
      rintro e w' ⟨rfl, rfl⟩
      go_wp2_with fail
      refine (HWT.out _).mono ?_
      rintro e w' ⟨rfl, rfl⟩
      go_wp2_with fail
      go_ret
      exact ⟨rfl, Below.refl _ _⟩
  · rw [arcB_wt h6]
    have h61 : (wt v == 6) = false := by simpa using h6
    clear hb hv h6
    generalize wt v = t at *
    go_enter Tryz.func15, Tryz.ntmps15
    go_wp2_with fail
    refine (HN.out _).mono ?_
    rintro e w' ⟨rfl, rfl⟩
    go_wp2_with fail
    refine (HV.out _).mono ?_
    rintro e w' ⟨rfl, rfl⟩
    go_wp2_with fail
    refine (HWT.out _).mono ?_
    rintro e w' ⟨rfl, rfl⟩
    go_wp2_with fail
    go_ret
    exact ⟨rfl, Below.refl _ _⟩
theorem hasB_bit {x : Int} {p : Nat} (hx : IsW x) (hp : p < 24) : hasB (powI (p : Int)) x = (bitI x (p : Int) == 1) := by
  unfold hasB
  rw [and_pow x (p : Int) hx.1 (by omega)]
  have h1 := powI_pos (p : Int)
  rcases bitI_01 x (p : Int) with h | h
  · rw [h, Int.zero_mul]
    rw [show ((0 : Int) == powI (p : Int)) = false by rw [beq_eq_false_iff_ne]; omega]
    rfl
  · rw [h, Int.one_mul]
    simp
set_option maxRecDepth 100000 in
set_option maxHeartbeats 2000000 in
theorem sPlaneOn_calls (b p : Int) (w : World) :
    Calls Tryz.prog 10 #[.int .i64 b, .int .i64 p] w (GotL w (plOn b p).1 (plOn b p).2) := by
  have HE := Lib.hid (own_empty w w.heap.size (Nat.le_refl _))
  rcases hb : baseB b with _ | _
  · rw [show plOn b p = ([], false) by simp [plOn, hb]]
    have HN := Lib.hid (l6pBase_no b hb)
    clear hb
    go_enter Tryz.func10, Tryz.ntmps10
    go_wp2_with fail
    refine (HN.out _).mono ?_
    rintro e w' ⟨rfl, rfl⟩
    go_wp2_with fail
    go_ret2
    exact ⟨_, rfl, HE.out, (Below.refl _ _).alloc (Nat.le_refl _) _⟩
  have HN := Lib.hid (l6pBase_yes b hb)
  have HP := Lib.hid (fun W => l6pPoint_calls b p W)
  rcases h1 : ptB b p with _ | _
  · rw [show plOn b p = ([], false) by simp [plOn, h1]]
    rw [h1] at HP
    clear hb h1
    go_enter Tryz.func10, Tryz.ntmps10
    go_wp2_with fail
    refine (HN.out _).mono ?_
    rintro e w' ⟨rfl, rfl⟩
    go_wp2_with fail
    refine (HP.out _).mono ?_
    rintro e w' ⟨rfl, rfl⟩
    go_wp2_with fail
    go_ret2
    exact ⟨_, rfl, HE.out, (Below.refl _ _).alloc (Nat.le_refl _) _⟩
  · rw [show plOn b p = ((lns b).filter (hasB (powI p)), true) by simp [plOn, hb, h1]]
    rw [h1] at HP
    obtain ⟨B, rfl, hB⟩ := baseB_nat hb
    obtain ⟨p, rfl, hp, _⟩ := ptB_nat h1
    have HLS := Lib.hid (l6pLines_calls B hB)
    have HLEN := Lib.hid (lns_len hB)
    have HWL := Lib.hid (fun j (hj : j < 21) => lns_W hB j hj)
    have HHB := Lib.hid (fun j (hj : j < 21) => hasB_bit (lns_W hB j hj) hp)
    have hlen := lns_len hB
    dsimp only
    clear hb h1
    generalize lns (B : Int) = L at *
    generalize (B : Int) = b at *
    have HTK := Lib.hid (fun k (hk : k < 21) => show (L.take (k + 1)).filter (hasB (powI (p : Int))) = if hasB (powI (p : Int)) (L.getD k 0) then (L.take k).filter (hasB (powI (p : Int))) ++ [L.getD k 0] else (L.take k).filter (hasB (powI (p : Int))) by rw [tk_succ L k (by omega), filter_snoc])
    have HLE := Lib.hid (fun k => show ((L.take k).filter (hasB (powI (p : Int)))).length ≤ 21 by
      have h1 := List.length_filter_le (hasB (powI (p : Int))) (L.take k)
      have h2 : (L.take k).length ≤ L.length := by rw [List.length_take]; omega
      omega)
    have HALL := Lib.hid (show L.take 21 = L from List.take_of_length_le (by omega))
    have HB1 := Lib.hid (fun x W => l1Bit_calls x (p : Int) W (by omega) (by omega))
    clear hlen
    go_enter Tryz.func10, Tryz.ntmps10
    go_wp2_with fail
    refine (HN.out _).mono ?_
    rintro e w' ⟨rfl, rfl⟩
    go_wp2_with fail
    refine (HP.out _).mono ?_
    rintro e w' ⟨rfl, rfl⟩
    go_wp2_with fail
    refine (HLS.out _).mono ?_
    rintro e w1 ⟨v1, rfl, o1, b1⟩
    obtain ⟨A, c, rfl⟩ := o1.slice
    rw [HLEN.out]
    have HB := Lib.hid (((Below.refl w.heap.size w).alloc (Nat.le_refl _) (.cells #[] 3)).trans (b1.mono (by simp)))
    have HO1 := Lib.hid (HE.out.below b1)
    have HR := Lib.hid o1.rds
    have hs1 : w.heap.size < w1.heap.size := by have := b1.size; simp at this; omega
    have HA := Lib.hid (show ∀ ad, A = some ad → w.heap.size < ad.block from fun ad h => by have := own_lo' o1 ad h; simp at this; omega)
    have HAU := Lib.hid (show ∀ ad, A = some ad → ad.block < w1.heap.size from fun ad h => by
      obtain ⟨b, o, e, hb, _⟩ := o1.rds.at_ (j := 0) (by rw [HLEN.out]; decide)
      rw [e] at h; cases h; exact hb)
    clear b1 o1 HE
    go_wp2_with fail
    go_loopw [6, 8] (fun v i wr => ∃ k : Nat, k ≤ 21 ∧ i = .int .i64 k ∧ Hid (Own wr w.heap.size v ((L.take k).filter (hasB (powI (p : Int))))) ∧ Hid (Rds wr w1.heap.size .i64 A L) ∧ Hid (∀ j, v.ownBlock = some j → j = w.heap.size ∨ w1.heap.size ≤ j) ∧ Hid (Below w.heap.size w wr) ∧ w1.heap.size ≤ wr.heap.size) (fun _ i _ => 21 - (intOf i).toNat)
    case atStart => exact ⟨0, by omega, rfl, HO1, HR, Lib.hid (fun j h => by simp [Value.ownBlock] at h; omega), HB, Nat.le_refl _⟩
    case round =>
      obtain ⟨k, hk, rfl, ho, hr, hj, hb, hz⟩ := hrel
      by_cases hlt : k < 21
      · have HS := Lib.hid (HTK.out k hlt)
        obtain ⟨bb, o, rfl, hb1, hc⟩ := hr.out.at_ (j := k) (by rw [HLEN.out]; exact hlt)
        have hx := HWL.out k hlt
        have hl := HLE.out k
        have hhb := HHB.out k hlt
        have hq1 : (0 : Int) ≤ (k : Int) := by omega
        have hq2 : (k : Int) < 21 := by omega
        generalize L.getD k 0 = x at *
        generalize (L.take k).filter (hasB (powI (p : Int))) = M at *
        have HBX := Lib.hid (HB1.out x)
        rcases hcase : hasB (powI (p : Int)) x with _ | _
        · have HS2 := Lib.hid (show (L.take (k + 1)).filter (hasB (powI (p : Int))) = M by rw [HS.out, hcase]; rfl)
          rw [hcase] at hhb
          have hhb2 := hhb.symm
          clear hhb hcase HS
          generalize bitI x (p : Int) = y at *
          go_wp2_with fail
          refine (HBX.out _).mono ?_
          rintro e w' ⟨rfl, rfl⟩
          go_wp2_with fail
          go_roundw
          case rel => exact ⟨k + 1, by omega, by go_num, by rw [HS2.out]; exact ho, hr, hj, hb, hz⟩
          case measure => simp [intOf]; omega
        · have HS2 := Lib.hid (show (L.take (k + 1)).filter (hasB (powI (p : Int))) = M ++ [x] by rw [HS.out, hcase]; rfl)
          rw [hcase] at hhb
          have hhb2 := hhb.symm
          clear hhb hcase HS
          generalize bitI x (p : Int) = y at *
          go_wp2_with fail
          refine (HBX.out _).mono ?_
          rintro e w' ⟨rfl, rfl⟩
          go_wp2_with (at_builtin; refine wpList_pushAt rfl _ _ rfl _ w.heap.size _ _ _ _ rfl rfl (by exact ho.out) (by omega) (by omega) ?_; intro v2 w2 ho2 hb2 hg2 hat)
          go_roundw
          case rel =>
            refine ⟨k + 1, by omega, by go_num, by rw [HS2.out]; exact Lib.hid ho2, Lib.hid (hr.out.apart hg2 hz fun ad h e => ?_), Lib.hid (fun j h => ?_), Lib.hid (hb.out.trans hb2), Nat.le_trans hz hg2.size⟩
            · have h1 := HA.out ad h
              have h2 := HAU.out ad h
              rcases hj.out _ e with h3 | h3 <;> omega
            · rcases hat j h with h1 | h1
              · exact hj.out j h1
              · exact .inr (by omega)
          case measure => simp [intOf]; omega
      · obtain rfl : k = 21 := by omega
        rw [HALL.out] at ho
        go_wp2_with fail
        go_ret2
        exact ⟨_, rfl, ho.out, hb.out⟩
theorem plI_rng {w : Int} (k : Nat) (h : k < (plI w.toNat).length) : 0 ≤ (plI w.toNat).getD k 0 ∧ (plI w.toNat).getD k 0 ≤ 23 := by
  have hm : (plI w.toNat).getD k 0 ∈ plI w.toNat := by rw [← getD_at _ k h]; exact List.getElem_mem _
  unfold plI at hm ⊢
  obtain ⟨x, hx, e⟩ := List.mem_map.1 hm
  have := pl_lt _ x hx
  rw [← e]
  omega
end Go.Proofs.YtaopcfiaffmfhabGreatDoor
