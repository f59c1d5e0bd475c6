/- Permutations of the model: PermTimes, PermTurned, PermFixed. -/
import Derived.Test.YtakefnfhjiodnaaDoorC104
import Derived.Test.YtakefnfhjiodnaaDoorQ4
namespace Go.Proofs.YtakefnfhjiodnaaDoor
open Go.RowKit
set_option linter.unusedVariables false
attribute [local irreducible] cN syn

set_option maxRecDepth 100000 in
set_option maxHeartbeats 2000000 in
theorem sPermTimes_calls (A A2 : Option Addr) (c c2 : Nat) (xs ys : List Int) (w : World) (ha : Rds w w.heap.size .i64 A xs) (hx : xs.length ≤ maxLen) (ha2 : Rds w w.heap.size .i64 A2 ys) (hy : ys.length ≤ maxLen) :
    Calls Tryd.prog 20 #[.slice A xs.length c, .slice A2 ys.length c2] w (GotL w (plTimes xs ys).1 (plTimes xs ys).2) := by
  obtain ⟨i0, hi, hz0, hz1, hz2⟩ := info_parts intRow
  have HE := Lib.hid (own_empty2 w w.heap.size (Nat.le_refl _))
  have HA := Lib.hid ((ha.alloc (Nat.le_refl _) (.cells #[] 3)).more (show w.heap.size ≤ (w.alloc (.cells #[] 3)).heap.size by simp))
  have HA2 := Lib.hid ((ha2.alloc (Nat.le_refl _) (.cells #[] 3)).more (show w.heap.size ≤ (w.alloc (.cells #[] 3)).heap.size by simp))
  rcases hb : permB xs with _ | _
  · rw [show plTimes xs ys = ([], false) by simp [plTimes, hb]]
    go_enter Tryd.func20, Tryd.ntmps20
    go_wp2_with (go_at_call 14; refine (sPermValid_calls _ _ xs _ HA.out hx).mono ?_; rintro e w' ⟨he, rfl⟩; rw [hb] at he; subst he)
    go_ret2
    exact ⟨_, rfl, HE.out, (Below.refl _ _).alloc (Nat.le_refl _) _⟩
  rcases hc : permB ys with _ | _
  · rw [show plTimes xs ys = ([], false) by simp [plTimes, hc]]
    go_enter Tryd.func20, Tryd.ntmps20
    go_wp2_with fail
    refine (sPermValid_calls _ _ xs _ HA.out hx).mono ?_
    rintro e w' ⟨he, rfl⟩
    rw [hb] at he; subst he
    go_wp2_with fail
    refine (sPermValid_calls _ _ ys _ HA2.out hy).mono ?_
    rintro e w' ⟨he, rfl⟩
    rw [hc] at he; subst he
    go_wp2_with fail
    go_ret2
    exact ⟨_, rfl, HE.out, (Below.refl _ _).alloc (Nat.le_refl _) _⟩
  · rw [show plTimes xs ys = (intP (thenN (natP xs) (natP ys)), true) by simp [plTimes, hb, hc]]
    have hzl : (intP (thenN (natP xs) (natP ys))).length = 24 := by rw [intP_len, thenN_len, natP_len, permB_len hb]
    have HAT := Lib.hid (fun k (hk : k < 24) => show ∃ p : Nat, p < 24 ∧ xs.getD k 0 = (p : Int) ∧ ys.getD p 0 = (intP (thenN (natP xs) (natP ys))).getD k 0 by
      obtain ⟨e1, h1⟩ := permB_at hb k hk
      obtain ⟨e2, h2⟩ := permB_at hc _ h1
      refine ⟨_, h1, e1, ?_⟩
      rw [e2, intP_get, thenN_get _ k (by rw [natP_len, permB_len hb]; exact hk)])
    generalize intP (thenN (natP xs) (natP ys)) = zs at *
    have HST := Lib.hid (fun k (hk : k < 24) => show zs.take k ++ [zs.getD k 0] = zs.take (k + 1) from (take_succ_getD zs k (by omega)).symm)
    have HL := Lib.hid (permB_len hb)
    have HL2 := Lib.hid (permB_len hc)
    have HLX := Lib.hid hzl
    have HV := Lib.hid (fun (W : World) (h : Rds W W.heap.size .i64 A xs) => sPermValid_calls A c xs W h hx)
    have HV2 := Lib.hid (fun (W : World) (h : Rds W W.heap.size .i64 A2 ys) => sPermValid_calls A2 c2 ys W h hy)
    rw [hb] at HV
    rw [hc] at HV2
    clear hzl hb hc hx hy
    go_enter Tryd.func20, Tryd.ntmps20
    go_wp2_with fail
    refine (HV.out _ HA.out).mono ?_
    rintro e w' ⟨rfl, rfl⟩
    go_wp2_with fail
    refine (HV2.out _ HA2.out).mono ?_
    rintro e w' ⟨rfl, rfl⟩
    go_wp2_with fail
    go_loopw [6, 7] (fun v i wr => ∃ k : Nat, k ≤ 24 ∧ i = .int .i64 k ∧ Hid (Own wr w.heap.size v (zs.take k)) ∧ Hid (Below w.heap.size w wr)) (fun _ i _ => 24 - (intOf i).toNat)
    case atStart => exact ⟨0, by omega, rfl, HE, Lib.hid ((Below.refl _ _).alloc (Nat.le_refl _) _)⟩
    case round =>
      obtain ⟨k, hk, rfl, ho, hb⟩ := hrel
      clear HE HA HA2
      by_cases hlt : k < 24
      · obtain ⟨p, hp, e1, e2⟩ := HAT.out k hlt
        obtain ⟨B1, o1, rfl, hB1, c1⟩ := (ha.below hb.out).at_ (j := k) (by have := HL.out; omega)
        obtain ⟨B2, o2, rfl, hB2, c2'⟩ := (ha2.below hb.out).at_ (j := p) (by have := HL2.out; omega)
        have HS := Lib.hid (HST.out k hlt)
        have k1 : (k : Int) < xs.length := by have := HL.out; omega
        have k2 : (p : Int) < ys.length := by have := HL2.out; omega
        have hlen : (zs.take k).length ≤ 24 := by rw [List.length_take]; omega
        rw [e1] at c1
        rw [e2] at c2'
        have hp1 : (0 : Int) ≤ (p : Int) := by omega
        clear e1 e2
        generalize zs.getD k 0 = y at *
        have hsz := hb.out.size
        have l1 : B1 < wr.heap.size := by omega
        have l2 : B2 < wr.heap.size := by omega
        go_wp2_with (at_builtin; refine wpList_push rfl _ _ rfl wr w.heap.size u6 (zs.take k) y 1 rfl rfl ho.out (by omega) hsz ?_; intro v2 w2 ho2 hb2 hg2)
        rw [HS.out] at ho2
        go_wp2
        go_roundw
        case rel => exact ⟨k + 1, by omega, by go_num, Lib.hid ho2, Lib.hid (hb.out.trans hb2)⟩
        case measure => simp [intOf]; omega
      · obtain rfl : k = 24 := by omega
        have ho2 := ho.out
        rw [List.take_of_length_le (by rw [HLX.out]; omega)] at ho2
        have HO := Lib.hid ho2
        clear ho2 ho
        go_wp2
        go_ret2
        exact ⟨_, rfl, HO.out, hb.out⟩
theorem mk24 (W : World) : (Instr.makeSlice 23 (.int .i64 24) (.int .i64 24)).run Tryd.prog W = .ok (.slice (some ⟨W.heap.size, 0, none⟩) 24 24) (W.alloc (.cells (VL z24) 3)) := by kernel_rfl
theorem own_24 {w : World} {B g : Nat} (xs : List Int) (hl : xs.length = 24) (hg : w.heap[g]? = some (.cells (VL xs) 3 (0, 0))) (hB : B ≤ g) : Own w B (.slice (some ⟨g, 0, none⟩) 24 24) xs :=
  ⟨by simp [vals_len, hl], .inr ⟨g, 24, _, by rw [hl], hB, hg, by simp [hl], by unfold maxLen; omega, by simp [VL, hl], by
    have : (vals .i64 xs).length ≤ xs.length * 1 := by rw [vals_len]; omega
    simp only [VL, vals, Nat.mul_one]
    rw [List.take_of_length_le (by simp)]⟩⟩
set_option maxRecDepth 100000 in
set_option maxHeartbeats 2000000 in
theorem sPermTurned_calls (A : Option Addr) (c : Nat) (xs : List Int) (w : World) (ha : Rds w w.heap.size .i64 A xs) (hx : xs.length ≤ maxLen) :
    Calls Tryd.prog 24 #[.slice A xs.length c] w (GotL w (plTurned xs).1 (plTurned xs).2) := by
  have HM := mk24
  have HE := Lib.hid (own_empty2 w w.heap.size (Nat.le_refl _))
  have HV := Lib.hid (sPermValid_calls A c xs w ha hx)
  rcases hb : permB xs with _ | _
  · rw [show plTurned xs = ([], false) by simp [plTurned, hb]]
    rw [hb] at HV
    clear ha hx hb
    generalize xs.length = n at *
    go_enter Tryd.func24, Tryd.ntmps24
    go_wp2_with fail
    refine HV.out.mono ?_
    rintro e w' ⟨rfl, rfl⟩
    go_wp2_with fail
    go_ret2
    exact ⟨_, rfl, HE.out, (Below.refl _ _).alloc (Nat.le_refl _) _⟩
  · rw [show plTurned xs = (intP (turnN (natP xs)), true) by simp [plTurned, hb]]
    rw [hb] at HV
    obtain ⟨hP, _⟩ := permB_perm hb
    have HAT := Lib.hid (fun k hk => permB_at hb k hk)
    have HML := Lib.hid (fun k => show (intP (tkN (natP xs) k)).length = 24 by rw [intP_len, tkN_len])
    have HMS := Lib.hid (fun k (hk : k < 24) => show (intP (tkN (natP xs) k)).set ((natP xs).getD k 0) (k : Int) = intP (tkN (natP xs) (k + 1)) by rw [intP_set, tkN_set hP k hk])
    have HM0 := Lib.hid (show intP (tkN (natP xs) 0) = z24 by rw [tkN_zero]; rfl)
    have HM24 := Lib.hid (show intP (tkN (natP xs) 24) = intP (turnN (natP xs)) by rw [tkN_all hP])
    have HTL := Lib.hid (show (intP (turnN (natP xs))).length = 24 by rw [intP_len, turnN_len])
    generalize intP (turnN (natP xs)) = ts at *
    obtain ⟨M, hM⟩ : ∃ M : Nat → List Int, (fun k => intP (tkN (natP xs) k)) = M := ⟨_, rfl⟩
    have hMk : ∀ k, intP (tkN (natP xs) k) = M k := fun k => by rw [← hM]
    simp only [hMk] at HML HMS HM0 HM24
    have HL := Lib.hid (permB_len hb)
    clear hM hMk hP hb hx
    go_enter Tryd.func24, Tryd.ntmps24
    go_wp2_with fail
    refine HV.out.mono ?_
    rintro e w' ⟨rfl, rfl⟩
    go_wp2_with fail
    go_loopw [5] (fun i wr => ∃ p : Nat, p ≤ 24 ∧ i = .int .i64 p ∧ Hid (wr.heap[w.heap.size]? = some (.cells (VL (M p)) 3 (0, 0))) ∧ Hid (Below w.heap.size w wr)) (fun i _ => 24 - (intOf i).toNat)
    case atStart => exact ⟨0, by omega, rfl, Lib.hid (by rw [HM0.out]; exact heap_alloc_new w _), Lib.hid ((Below.refl _ _).alloc (Nat.le_refl _) _)⟩
    case round =>
      obtain ⟨k, hk, rfl, h2, hbl⟩ := hrel
      clear HE
      by_cases hlt : k < 24
      · obtain ⟨e1, hq⟩ := HAT.out k hlt
        obtain ⟨B1, o1, rfl, hB1, c1⟩ := (ha.below hbl.out).at_ (j := k) (by have := HL.out; omega)
        have k1 : (k : Int) < xs.length := by have := HL.out; omega
        rw [e1] at c1
        have HF := Lib.hid (fun X => row_set (X := X) h2.out (by omega) hbl.out (HMS.out k hlt))
        generalize (natP xs).getD k 0 = q at *
        have hq1 : (0 : Int) ≤ (q : Int) := by omega
        have hq2 : (q : Int) < 24 := by omega
        have hcx := VL_at (j := q) _ (by rw [HML.out k]; exact hq) h2.out
        have hfx : wr.frozen? ⟨w.heap.size, q, none⟩ = false := Lib.frozen_of_heap h2.out _
        clear e1
        generalize (M k).getD q 0 = z at *
        go_wp2_with fail
        go_roundw
        case rel =>
          refine ⟨k + 1, by omega, by go_num, Lib.hid ?_, Lib.hid ?_⟩
          · exact (HF.out _ rfl ⟨rfl, rfl, rfl⟩).1
          · exact (HF.out _ rfl ⟨rfl, rfl, rfl⟩).2.2
        case measure => simp [intOf]; omega
      · obtain rfl : k = 24 := by omega
        have h2' := h2.out
        rw [HM24.out] at h2'
        have HO := Lib.hid (own_24 ts HTL.out h2' (Nat.le_refl _))
        clear h2' h2
        go_wp2_with fail
        go_ret2
        exact ⟨_, rfl, HO.out, hbl.out⟩
set_option maxRecDepth 100000 in
set_option maxHeartbeats 2000000 in
theorem sPermFixed_calls (A : Option Addr) (c : Nat) (xs : List Int) (w : World) (ha : Rds w w.heap.size .i64 A xs) (hx : xs.length ≤ maxLen) :
    Calls Tryd.prog 34 #[.slice A xs.length c] w fun e w' => e = .returned (.tuple #[.int .i64 (plFixed xs).1, .bool (plFixed xs).2]) ∧ w = w' := by
  have HV := Lib.hid (sPermValid_calls A c xs w ha hx)
  rcases hb : permB xs with _ | _
  · rw [show plFixed xs = (0, false) by simp [plFixed, hb]]
    rw [hb] at HV
    clear ha hx hb
    generalize xs.length = n at *
    go_enter Tryd.func34, Tryd.ntmps34
    go_wp2_with fail
    refine HV.out.mono ?_
    rintro e w' ⟨rfl, rfl⟩
    go_wp2_with fail
    go_ret2
    exact ⟨rfl, rfl⟩
  · rw [show plFixed xs = (((fixTo (natP xs) 24 : Nat) : Int), true) by simp [plFixed, hb]]
    rw [hb] at HV
    have HAT := Lib.hid (fun k hk => permB_at hb k hk)
    have HFA := Lib.hid (fun k (h : (natP xs).getD k 0 = k) => show ((fixTo (natP xs) (k + 1) : Nat) : Int) = ((fixTo (natP xs) k : Nat) : Int) + powI (k : Int) by rw [← fixTo_add (natP xs) k h, xor_pow _ _ (by omega) (by omega) (fixTo_bit _ k)])
    have HFN := Lib.hid (fun k (h : ¬ (natP xs).getD k 0 = k) => show fixTo (natP xs) (k + 1) = fixTo (natP xs) k by rw [fixTo, if_neg h]; omega)
    have HRG := Lib.hid (fun k hk => fixTo_rng (natP xs) k hk)
    have HL := Lib.hid (permB_len hb)
    clear hb hx
    go_enter Tryd.func34, Tryd.ntmps34
    go_wp2_with fail
    refine HV.out.mono ?_
    rintro e w' ⟨rfl, rfl⟩
    go_wp2_with fail
    go_loopw [4, 5] (fun f i wr => ∃ p : Nat, p ≤ 24 ∧ i = .int .i64 p ∧ f = .int .i64 ((fixTo (natP xs) p : Nat) : Int) ∧ w = wr) (fun _ i _ => 24 - (intOf i).toNat)
    case atStart => exact ⟨0, by omega, rfl, rfl, rfl⟩
    case round =>
      obtain ⟨p, hp, rfl, rfl, hww⟩ := hrel
      subst hww
      obtain ⟨hr0, hr1⟩ := HRG.out p hp
      by_cases hlt : p < 24
      · obtain ⟨e1, hq⟩ := HAT.out p hlt
        obtain ⟨B1, o1, rfl, hB1, c1⟩ := ha.at_ (j := p) (by have := HL.out; omega)
        have k1 : (p : Int) < xs.length := by have := HL.out; omega
        rw [e1] at c1
        have hp1 : (0 : Int) ≤ (p : Int) := by omega
        have hp2 : (p : Int) < 24 := by omega
        have hp3 : (p : Int) ≤ 23 := by omega
        have hpv := pow_val (p : Int) hp1 hp3
        obtain ⟨hn0, hn1⟩ := HRG.out (p + 1) (by omega)
        by_cases he : (natP xs).getD p 0 = p
        · have hs := HFA.out p he
          have HW := Lib.hid (wrap_pow ((fixTo (natP xs) p : Nat) : Int) (p : Int) (by omega) (by omega) hpv.1 hpv.2)
          have HS := Lib.hid hs
          rw [he] at c1
          clear e1 he hq hs hn0 hn1
          generalize ((fixTo (natP xs) p : Nat) : Int) = f at *
          go_wp2_with fail
          go_roundw
          case rel => exact ⟨p + 1, by omega, by go_num, by rw [HS.out]; exact congrArg (Value.int .i64) HW.out, by first | exact rfl | trivial⟩
          case measure => simp [intOf]; omega
        · have HS := Lib.hid (HFN.out p he)
          have hne : ((((natP xs).getD p 0 : Nat) : Int) == (p : Int)) = false := by
            rw [beq_eq_false_iff_ne]
            intro e
            exact he (by omega)
          clear e1 he
          generalize (natP xs).getD p 0 = q at *
          go_wp2_with fail
          go_roundw
          case rel => exact ⟨p + 1, by omega, by go_num, by rw [HS.out], by first | exact rfl | trivial⟩
          case measure => simp [intOf]; omega
      · obtain rfl : p = 24 := by omega
        go_wp2_with fail
        go_ret2
        exact ⟨rfl, rfl⟩
end Go.Proofs.YtakefnfhjiodnaaDoor
