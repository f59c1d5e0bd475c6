/- The walk of promise 34. -/
import Derived.Test.YtnfpdonlknkccacDoorW38
import Derived.Deep.QuietTactic
import Derived.BigQuiet
namespace Go.Proofs.YtnfpdonlknkccacDoor
open Go.RowKit
set_option linter.unusedVariables false
attribute [local irreducible] octS cN octF

theorem triL_num (W : Nat) (hW : W < 16777216) (h8 : pop W = 8) (hc : ∃ m : Nat, m < 4096 ∧ W = cN m) (i k : Nat) (hi : i < 9) (hk : k ≤ i) : ((triL W).getD i []).getD k 0 = ((tT k (i - k) : Nat) : Int) := by
  rw [← triL_at W i hi, ← triV_octS, triV_at _ _ _ _ hk, ← tri_is W hc h8 i k (by omega) hk]
  rfl
theorem tT_small : ∀ k : Fin 9, ∀ c : Fin 9, k.val + c.val ≤ 8 → tT k.val c.val ≤ 759 := by decide +kernel
set_option maxRecDepth 100000 in
set_option maxHeartbeats 4000000 in
theorem walk_FnTriangle (a0 : Option Addr) (len0 cap0 : Nat) (z0 : List Int) (w : World) (w0 : IsRow .u8 w a0 len0 cap0 z0) (hT : Tab3 w) :
    Calls Tryd.prog 3 #[.slice a0 len0 cap0] w fun e w' => e = .returned (.bool true) ∧ Below w.heap.size w w' := by
  obtain ⟨bs, rfl, hr, hc, hm, hv⟩ := w0.bytes
  have hm' := hm
  unfold maxLen at hm'
  by_cases hbig : 1048576 < bs.length
  · go_enter Tryd.func3, Tryd.ntmps3
    go_wp2_with fail
    go_ret
    exact ⟨rfl, Below.refl _ _⟩
  have hbig' : bs.length ≤ 1048576 := by omega
  clear hbig
  go_enter Tryd.func3, Tryd.ntmps3
  go_wp2_with fail
  refine (DrawOctadTriangle_calls _ _ bs _ hr hc hm hv).mono ?_
  rintro e wa ⟨a, rfl, ha0, ha1, ba⟩
  have BA := Lib.hid ba
  clear ba hr hv hc hm hm' hbig' w0
  rcases hb : oIn a with _ | _
  · have HE := Lib.hid (show triA a = ([], false) by simp [triA, hb])
    clear hb
    go_wp2_with fail
    refine (iOctadTriangle_calls _ _ (hT.below BA.out hT.lt)).mono ?_
    rintro e w1 ⟨A1, c1, he, _, b1⟩
    rw [HE.out] at he
    dsimp only [List.length_nil] at he
    subst he
    have B1 := Lib.hid (BA.out.trans (b1.mono BA.out.size))
    clear b1
    go_wp2_with fail
    refine (sOctadTriangle_calls _ _).mono ?_
    rintro e w2 ⟨A2, c2, he, _, b2⟩
    rw [HE.out] at he
    dsimp only [List.length_nil] at he
    subst he
    have B2 := Lib.hid (B1.out.trans (b2.mono B1.out.size))
    clear b2
    go_wp2_with fail
    refine (sameRows_yes A1 A2 c1 c2 [] _ Rds2.nil_ Rds2.nil_ (by decide)).mono ?_
    rintro e w3 ⟨rfl, k3, rfl⟩
    go_wp2_with fail
    refine (sameRows_yes A1 A2 c1 c2 [] _ Rds2.nil_ Rds2.nil_ (by decide)).mono ?_
    rintro e w4 ⟨rfl, k4, rfl⟩
    go_wp2_with fail
    go_ret
    exact ⟨rfl, below_drewN B2.out (k3 + k4)⟩
  · have HE := Lib.hid (show triA a = (triL a.toNat, true) by simp [triA, hb])
    obtain ⟨W, rfl, hW, h8, hcm⟩ := oIn_nat hb
    clear hb
    rw [Int.toNat_natCast] at HE
    have HNUM := Lib.hid (fun i k hi hk => triL_num W hW h8 hcm i k hi hk)
    have HLN := Lib.hid (fun i h => triL_lens W i h)
    have hl9 := triL_len W
    generalize triL W = L at *
    have HL9 := Lib.hid hl9
    clear hl9 hW h8 hcm ha0 ha1
    go_wp2_with fail
    refine (iOctadTriangle_calls _ _ (hT.below BA.out hT.lt)).mono ?_
    rintro e w1 ⟨A1, c1, he, o1, b1⟩
    rw [HE.out] at he o1
    dsimp only at he o1
    rw [HL9.out] at he
    subst he
    have B1 := Lib.hid (BA.out.trans (b1.mono BA.out.size))
    have O1 := Lib.hid o1
    clear b1 o1
    go_wp2_with fail
    refine (sOctadTriangle_calls _ _).mono ?_
    rintro e w2 ⟨A2, c2, he, o2, b2⟩
    rw [HE.out] at he o2
    dsimp only at he o2
    rw [HL9.out] at he
    subst he
    have B2 := Lib.hid (B1.out.trans (b2.mono B1.out.size))
    have R2 := Lib.hid o2.rds
    have O1b := Lib.hid (O1.out.below b2)
    clear b2 o2 O1
    have HEQ := sameRows_yes A1 A2 c1 c2 L w2 O1b.out.rds R2.out (by rw [HL9.out]; decide)
    rw [HL9.out] at HEQ
    have HEQ2 := Lib.hid HEQ
    clear HEQ
    obtain ⟨g, gs, cs, rfl, hg, hrw⟩ : ∃ (g : Nat) (gs cs : Nat → Nat), A1 = some ⟨g, 0, none⟩ ∧ wa.heap.size ≤ g ∧ Rows2 w2 wa.heap.size g L.length gs cs (fun i => L.getD i []) := by
      rcases O1b.out with h0 | ⟨g, gs, cs, h1, h2, h3⟩
      · have := HL9.out; rw [h0] at this; simp at this
      · exact ⟨g, gs, cs, h1, h2, h3⟩
    have HO := Lib.hid (fun i (hi : i < 9) => show w2.cell? ⟨g, i, none⟩ = some (.slice (some ⟨gs i, 0, none⟩) (i + 1) (cs i)) by
      have h1 := (hrw.2 i (by rw [HL9.out]; exact hi)).1
      dsimp only at h1
      rw [HLN.out i hi, nine_at i hi] at h1
      exact h1)
    have HC := Lib.hid (fun i k (hi : i < 9) (hk : k ≤ i) => show w2.cell? ⟨gs i, k, none⟩ = some (.int .i64 ((tT k (i - k) : Nat) : Int)) by
      have h1 := (hrw.2 i (by rw [HL9.out]; exact hi)).2.1
      dsimp only at h1
      have h2 := h1.cell (j := k) (by
        rw [HLN.out i hi, nine_at i hi]; omega)
      rw [HNUM.out i k hi hk] at h2
      exact h2)
    clear hrw O1b R2 HNUM HLN
    go_wp2_with fail
    refine HEQ2.out.mono ?_
    rintro e w3 ⟨rfl, k3, rfl⟩
    go_wp2_with fail
    go_loopw [8] (fun v wq => ∃ i m : Nat, v = .int .i64 (i : Nat) ∧ i ≤ 8 ∧ Hid (wq = w2.drewN m)) (fun v _ => 8 - (intOf v).toNat)
    case atStart => exact ⟨0, k3, rfl, by omega, Lib.hid rfl⟩
    case round =>
      obtain ⟨i, m, rfl, hi, HW⟩ := hrel
      by_cases hi8 : i < 8
      · have hiI : (i : Int) < 8 := by omega
        have hi0 : (0 : Int) ≤ (i : Int) := by omega
        go_wp2_with fail
        go_loopw [9] (fun v wq => ∃ k m : Nat, v = .int .i64 (k : Nat) ∧ k ≤ i + 1 ∧ Hid (wq = w2.drewN m)) (fun v _ => i + 2 - (intOf v).toNat)
        case atStart => exact ⟨0, m, rfl, by omega, HW⟩
        case round =>
          obtain ⟨k, m2, rfl, hk, HW2⟩ := hrel
          by_cases hki : k ≤ i
          · have hkI : (k : Int) ≤ (i : Int) := by omega
            have hk0 : (0 : Int) ≤ (k : Int) := by omega
            have hkI1 : (k : Int) < (i : Int) + 1 := by omega
            have hkI2 : (k : Int) < (i : Int) + 1 + 1 := by omega
            have hkI3 : (k : Int) + 1 < (i : Int) + 1 + 1 := by omega
            have hi9 : (i : Int) < 9 := by omega
            have hi10 : (i : Int) + 1 < 9 := by omega
            have e1 : wr.cell? ⟨g, i, none⟩ = some (.slice (some ⟨gs i, 0, none⟩) (i + 1) (cs i)) := by rw [HW2.out]; exact HO.out i (by omega)
            have e2 : wr.cell? ⟨g, i + 1, none⟩ = some (.slice (some ⟨gs (i + 1), 0, none⟩) (i + 1 + 1) (cs (i + 1))) := by rw [HW2.out]; exact HO.out (i + 1) (by omega)
            have e3 : wr.cell? ⟨gs i, k, none⟩ = some (.int .i64 ((tT k (i - k) : Nat) : Int)) := by rw [HW2.out]; exact HC.out i k (by omega) hki
            have e4 : wr.cell? ⟨gs (i + 1), k, none⟩ = some (.int .i64 ((tT k (i + 1 - k) : Nat) : Int)) := by rw [HW2.out]; exact HC.out (i + 1) k (by omega) (by omega)
            have e5 : wr.cell? ⟨gs (i + 1), k + 1, none⟩ = some (.int .i64 ((tT (k + 1) (i - k) : Nat) : Int)) := by
              rw [HW2.out]
              have := HC.out (i + 1) (k + 1) (by omega) (by omega)
              rw [show i + 1 - (k + 1) = i - k by omega] at this
              exact this
            have hst := tT_step k (i - k) (by omega)
            rw [show i - k + 1 = i + 1 - k by omega] at hst
            have b1 := tT_small ⟨k, by omega⟩ ⟨i + 1 - k, by omega⟩ (by show k + (i + 1 - k) ≤ 8; omega)
            have b2 := tT_small ⟨k + 1, by omega⟩ ⟨i - k, by omega⟩ (by show k + 1 + (i - k) ≤ 8; omega)
            dsimp only at b1 b2
            generalize tT k (i - k) = x1 at *
            generalize tT k (i + 1 - k) = x2 at *
            generalize tT (k + 1) (i - k) = x3 at *
            have hw : IntKind.i64.wrap ((x2 : Int) + (x3 : Int)) = (x1 : Int) := by rw [IntKind.wrap_i64]; omega
            have hwx : IntKind.i64.wrap (x1 : Int) = (x1 : Int) := by rw [IntKind.wrap_i64]; omega
            have hwN : (x2 : Int) + (x3 : Int) = (x1 : Int) := by omega
            clear hst b1 b2
            go_wp2_with fail
            go_quiet (fail)
            go_wp2_with fail
            go_roundw
            case rel => exact ⟨k + 1, m2 + nq, by go_num, by omega, Lib.hid (by rw [HW2.out, World.drewN_drewN])⟩
            case measure => first | (simp [intOf]; done) | (simp [intOf]; omega)
          · have hkI : ¬ (k : Int) ≤ (i : Int) := by omega
            go_wp2_with fail
            go_roundw
            case rel => exact ⟨i + 1, m2, by go_num, by omega, HW2⟩
            case measure => first | (simp [intOf]; done) | (simp [intOf]; omega)
      · obtain rfl : i = 8 := by omega
        have B4 := Lib.hid (show Below w.heap.size w wr by rw [HW.out]; exact below_drewN B2.out m)
        have o0 : wr.cell? ⟨g, 0, none⟩ = some (.slice (some ⟨gs 0, 0, none⟩) 1 (cs 0)) := by rw [HW.out]; exact HO.out 0 (by omega)
        have o1 : wr.cell? ⟨g, 1, none⟩ = some (.slice (some ⟨gs 1, 0, none⟩) 2 (cs 1)) := by rw [HW.out]; exact HO.out 1 (by omega)
        have o2 : wr.cell? ⟨g, 2, none⟩ = some (.slice (some ⟨gs 2, 0, none⟩) 3 (cs 2)) := by rw [HW.out]; exact HO.out 2 (by omega)
        have o3 : wr.cell? ⟨g, 3, none⟩ = some (.slice (some ⟨gs 3, 0, none⟩) 4 (cs 3)) := by rw [HW.out]; exact HO.out 3 (by omega)
        have o4 : wr.cell? ⟨g, 4, none⟩ = some (.slice (some ⟨gs 4, 0, none⟩) 5 (cs 4)) := by rw [HW.out]; exact HO.out 4 (by omega)
        have o5 : wr.cell? ⟨g, 5, none⟩ = some (.slice (some ⟨gs 5, 0, none⟩) 6 (cs 5)) := by rw [HW.out]; exact HO.out 5 (by omega)
        have o8 : wr.cell? ⟨g, 8, none⟩ = some (.slice (some ⟨gs 8, 0, none⟩) 9 (cs 8)) := by rw [HW.out]; exact HO.out 8 (by omega)
        have c0 : wr.cell? ⟨gs 0, 0, none⟩ = some (.int .i64 759) := by rw [HW.out]; exact HC.out 0 0 (by omega) (by omega)
        have c1 : wr.cell? ⟨gs 1, 1, none⟩ = some (.int .i64 253) := by rw [HW.out]; exact HC.out 1 1 (by omega) (by omega)
        have c2' : wr.cell? ⟨gs 2, 2, none⟩ = some (.int .i64 77) := by rw [HW.out]; exact HC.out 2 2 (by omega) (by omega)
        have c3 : wr.cell? ⟨gs 3, 3, none⟩ = some (.int .i64 21) := by rw [HW.out]; exact HC.out 3 3 (by omega) (by omega)
        have c4 : wr.cell? ⟨gs 4, 4, none⟩ = some (.int .i64 5) := by rw [HW.out]; exact HC.out 4 4 (by omega) (by omega)
        have c5 : wr.cell? ⟨gs 5, 5, none⟩ = some (.int .i64 1) := by rw [HW.out]; exact HC.out 5 5 (by omega) (by omega)
        have c8 : wr.cell? ⟨gs 8, 8, none⟩ = some (.int .i64 1) := by rw [HW.out]; exact HC.out 8 8 (by omega) (by omega)
        have c80 : wr.cell? ⟨gs 8, 0, none⟩ = some (.int .i64 30) := by
          rw [HW.out]
          have := HC.out 8 0 (by omega) (by omega)
          rw [show ((tT 0 (8 - 0) : Nat) : Int) = 30 by decide +kernel] at this
          exact this
        go_wp2_with fail
        go_ret
        exact ⟨rfl, B4.out⟩
end Go.Proofs.YtnfpdonlknkccacDoor
