/- The contract of the model's nearest row. -/
import Derived.Test.YtojjbdpoecmaeaaDoorC22
namespace Go.Proofs.YtojjbdpoecmaeaaDoor
open Go.RowKit
set_option linter.unusedVariables false

theorem nz_xor4 : ∀ a b : Fin 4, nz (xorI (a.val : Int) (b.val : Int)) = if (a.val : Int) = (b.val : Int) then 0 else 1 := by decide
theorem nz_xorI {a b : Int} (ha : IsD a) (hb : IsD b) : nz (xorI a b) = if a = b then 0 else 1 := by
  obtain ⟨a, rfl⟩ := ha.fin; obtain ⟨b, rfl⟩ := hb.fin; exact nz_xor4 a b
theorem differ_step {r s : List Int} (hr : IsRow6 r) (hs : IsRow6 s) (j : Nat) (hj : j < 6) : wtK (addR r s) (j + 1) = wtK (addR r s) j + if s.getD j 0 = r.getD j 0 then 0 else 1 := by
  rw [wtK_stepL _ j (by rw [(addR_row hr hs).1]; exact hj), addR_get hr hs j hj, nz_xorI (hr.get j) (hs.get j)]
  congr 1
  by_cases h : r.getD j 0 = s.getD j 0
  · rw [if_pos h, if_pos h.symm]
  · rw [if_neg h, if_neg (fun e => h e.symm)]
set_option maxHeartbeats 8000000 in
theorem sHexNear_calls (A : Option Addr) (c : Nat) (xs : List Int) (w : World) (ha : Rds w w.heap.size .i64 A xs) (hx : xs.length ≤ maxLen) :
    Calls Tryd.prog 39 #[.slice A xs.length c] w (GotLN w (hNear xs).1 (hNear xs).2.1 (hNear xs).2.2) := by
  have HE := Lib.hid (own_empty2 w w.heap.size (Nat.le_refl _))
  rcases hb : rowB xs with _ | _
  · rw [show hNear xs = ([], 0, false) by simp [hNear, hb]]
    go_enter Tryd.func39, Tryd.ntmps39
    go_wp2_with (go_at_call 60; refine (l2Row_calls _ _ xs _ ha hx).mono ?_; rintro e w' ⟨he, rfl⟩; rw [hb] at he; subst he)
    go_ret3
    exact ⟨_, rfl, HE.out, (Below.refl _ _).alloc (Nat.le_refl _) _⟩
  · rw [show hNear xs = ((nearTo xs 64).1, (nearTo xs 64).2, true) by simp [hNear, hb]]
    have hrx := (rowB_iff xs).1 hb
    have HRX := Lib.hid hrx
    have HL := Lib.hid hrx.1
    clear hrx
    go_enter Tryd.func39, Tryd.ntmps39
    go_wp2_with fail
    refine (l2Row_calls _ _ xs _ ha hx).mono ?_
    rintro e w' ⟨he, rfl⟩
    rw [hb] at he; subst he
    clear hb hx
    go_wp2_with fail
    go_loopw [5, 6, 7, 8, 9, 10] (fun v f i _ _ _ wr => ∃ (k : Nat) (n : Int) (ys : List Int), k ≤ 64 ∧ i = .int .i64 k ∧ f = .int .i64 n ∧ 0 ≤ n ∧ n ≤ 7 ∧ Hid (NearSo xs k ys n) ∧ Hid (Own wr w.heap.size v ys) ∧ Hid (Below w.heap.size w wr)) (fun _ _ i _ _ _ _ => 64 - (intOf i).toNat)
    case atStart => exact ⟨0, 7, [], by omega, rfl, rfl, by omega, by omega, Lib.hid ⟨rfl, .inl rfl⟩, HE, Lib.hid ((Below.refl _ _).alloc (Nat.le_refl _) _)⟩
    case round =>
      obtain ⟨k, n, ys, hk, rfl, rfl, hn0, hn7, hn, ho, hb⟩ := hrel
      clear HE
      obtain ⟨wo, rfl⟩ : ∃ wo : World, wo = wr := ⟨_, rfl⟩
      by_cases hlt : k < 64
      · have HROW := Lib.hid (hexAt_row k hlt)
        go_wp2_with fail
        refine (l2Of_calls ((k : Int) / 16) ((k : Int) / 4 % 4) ((k : Int) % 4) _ (by omega) (by omega) (by omega) (by omega) (by omega) (by omega)).mono ?_
        rintro e w1 ⟨v1, rfl, o1, b1⟩
        have O1 : Hid (Own w1 wo.heap.size v1 (hexAt k)) := o1
        have HY := Lib.hid (near_yes xs k ys n hn.out)
        have HN := Lib.hid (near_no HRX.out k hlt ys n hn.out)
        have HST := Lib.hid (fun j hj => differ_step HRX.out HROW.out j hj)
        have HRG := Lib.hid (fun j hj => wtK_rangeL (addR xs (hexAt k)) j (by rw [(addR_row HRX.out HROW.out).1]; exact hj))
        have HALL := Lib.hid (wtK_all (addR xs (hexAt k)) 6 (by rw [(addR_row HRX.out HROW.out).1]; omega))
        have HZ := Lib.hid (show wtK (addR xs (hexAt k)) 0 = 0 by simp [wtK, wtR])
        have HL1 := Lib.hid HROW.out.1
        have HO := Lib.hid (ho.out.below b1)
        have HB := Lib.hid (hb.out.trans (b1.mono hb.out.size))
        have hs := hb.out.size
        clear o1 b1 hn ho hb HROW
        generalize hexAt k = rw_ at *
        generalize addR xs rw_ = zs at *
        obtain ⟨A1, c1, hv1⟩ := O1.out.slice
        have hv2 : v1 = .slice A1 6 c1 := by rw [hv1, HL1.out]
        clear hv1
        subst hv2
        have HRD := Lib.hid O1.out.rds
        have HXD := Lib.hid ((ha.below HB.out).more HB.out.size)
        go_wp2_with fail
        go_loopw [9, 10] (fun d j wr => ∃ q : Nat, q ≤ 6 ∧ j = .int .i64 q ∧ d = .int .i64 (wtK zs q) ∧ ∃ m, wr = w1.drewN m) (fun _ j _ => 6 - (intOf j).toNat)
        case atStart => exact ⟨0, by omega, rfl, by rw [HZ.out], 0, rfl⟩
        case round =>
          obtain ⟨q, hq, rfl, rfl, m, rfl⟩ := hrel
          have hr := HRG.out q hq
          by_cases hlq : q < 6
          · obtain ⟨b2, o2, rfl, _, c2⟩ := HRD.out.at_ (j := q) (by rw [HL1.out]; omega)
            obtain ⟨b3, o3, rfl, _, c3⟩ := HXD.out.at_ (j := q) (by rw [HL.out]; omega)
            have HS := Lib.hid (HST.out q hlq)
            have q0 : 0 ≤ (q : Int) := by omega
            have q1 : (q : Int) < 6 := by omega
            have q2 : (q : Int) < xs.length := by rw [HL.out]; omega
            generalize rw_.getD q 0 = x at *
            generalize xs.getD q 0 = y at *
            by_cases he : x = y
            · have e1 : (x != y) = false := by simp [he]
              have HS2 := Lib.hid (HS.out.trans (show _ = wtK zs q by rw [if_pos he]; omega))
              clear he HS
              generalize wtK zs q = t at *
              go_wp2
              go_quiet (fail)
              go_wp2
              go_roundw
              case rel => exact ⟨q + 1, by omega, by go_num, by rw [HS2.out], _, rfl⟩
              case measure => simp [intOf]; omega
            · have e1 : (x != y) = true := by simp [he]
              have HS2 := Lib.hid (HS.out.trans (show _ = wtK zs q + 1 by rw [if_neg he]))
              clear he HS
              generalize wtK zs q = t at *
              go_wp2
              go_quiet (fail)
              go_wp2
              go_roundw
              case rel => exact ⟨q + 1, by omega, by go_num, by rw [HS2.out], _, rfl⟩
              case measure => simp [intOf]; omega
          · obtain rfl : q = 6 := by omega
            have hr2 := hr
            rw [HALL.out] at hr2 ⊢
            clear hr
            by_cases hl : wtR zs < n
            · have HY2 := Lib.hid (HY.out hl)
              generalize wtR zs = d at *
              go_wp2
              go_roundw
              case rel => exact ⟨k + 1, d, rw_, by omega, by go_num, rfl, by omega, by omega, HY2, Lib.hid ((by have := (O1.out.weak hs).drewN m; rw [← HL1.out]; simpa [HL1.out] using this)), Lib.hid (below_drewN HB.out m)⟩
              case measure => simp [intOf]; omega
            · have HN2 := Lib.hid (HN.out (by omega))
              generalize wtR zs = d at *
              go_wp2
              go_roundw
              case rel => exact ⟨k + 1, n, ys, by omega, by go_num, rfl, by omega, by omega, HN2, Lib.hid (HO.out.drewN m), Lib.hid (below_drewN HB.out m)⟩
              case measure => simp [intOf]; omega
      · obtain rfl : k = 64 := by omega
        obtain ⟨hn1, hn2⟩ := hn.out
        have hn3 := hn2.resolve_left (by omega)
        have HE1 := Lib.hid hn1
        have HO : Hid (Own wo w.heap.size u5 (nearTo xs 64).1) := by rw [← hn3]; exact ho.out
        clear hn hn1 hn2 hn3 ho
        go_wp2
        go_ret3
        exact ⟨_, by rw [HE1.out]; rfl, HO.out, hb.out⟩
end Go.Proofs.YtojjbdpoecmaeaaDoor
