/- Contracts of the model's exported functions of chapter 2. -/
import Derived.Test.YtojjbdpoecmaeaaDoorC6
import Derived.Test.YtojjbdpoecmaeaaDoorC21
namespace Go.Proofs.YtojjbdpoecmaeaaDoor
open Go.RowKit
set_option linter.unusedVariables false

theorem l2Digit_calls (n : Int) (w : World) :
    Calls Tryd.prog 47 #[.int .i64 n] w fun e w' => e = .returned (.bool (digB n)) ∧ w = w' := by
  rcases isD_or n with h | h
  · rw [(digB_iff n).2 h]; exact l2Digit_ok n w h
  · rw [(digB_no n).2 h]; exact l2Digit_no n w h
theorem sDigitTimes_calls (a b : Int) (w : World) :
    Calls Tryd.prog 18 #[.int .i64 a, .int .i64 b] w fun e w' => e = .returned (.int .i64 (dMul a b)) ∧ Below w.heap.size w w' := by
  rcases isD_or a with ha | ha
  · rcases isD_or b with hb | hb
    · rw [show dMul a b = mulD a b by simp [dMul, (digB_iff _).2 ha, (digB_iff _).2 hb]]
      go_enter Tryd.func18, Tryd.ntmps18
      go_wp2_with (first
        | (go_at_call 47; refine (l2Digit_ok _ _ (by assumption)).mono ?_; rintro e w' ⟨rfl, rfl⟩)
        | (go_at_call 48; refine (l2Times_calls _ _ _ ha.1 ha.2 hb.1 hb.2).mono ?_; rintro e w' ⟨rfl, rfl⟩))
      go_ret
      exact ⟨rfl, Below.refl _ _⟩
    · rw [show dMul a b = -1 by simp [dMul, (digB_no _).2 hb]]
      go_enter Tryd.func18, Tryd.ntmps18
      go_wp2_with (go_at_call 47; first | (refine (l2Digit_ok _ _ (by assumption)).mono ?_; rintro e w' ⟨rfl, rfl⟩) | (refine (l2Digit_no _ _ (by assumption)).mono ?_; rintro e w' ⟨rfl, rfl⟩))
      go_ret
      exact ⟨rfl, Below.refl _ _⟩
  · rw [show dMul a b = -1 by simp [dMul, (digB_no _).2 ha]]
    go_enter Tryd.func18, Tryd.ntmps18
    go_wp2_with (go_at_call 47; refine (l2Digit_no _ _ (by assumption)).mono ?_; rintro e w' ⟨rfl, rfl⟩)
    go_ret
    exact ⟨rfl, Below.refl _ _⟩
set_option maxHeartbeats 1000000 in
theorem sHexOf_calls (a b c : Int) (w : World) :
    Calls Tryd.prog 22 #[.int .i64 a, .int .i64 b, .int .i64 c] w (GotL w (hOf a b c).1 (hOf a b c).2) := by
  have HE := Lib.hid (own_empty2 w w.heap.size (Nat.le_refl _))
  rcases isD_or a with ha | ha
  rcases isD_or b with hb | hb
  rcases isD_or c with hc | hc
  · rw [show hOf a b c = (hexRow a b c, true) by simp [hOf, (digB_iff _).2 ha, (digB_iff _).2 hb, (digB_iff _).2 hc]]
    go_enter Tryd.func22, Tryd.ntmps22
    go_wp2_with (go_at_call 47; refine (l2Digit_ok _ _ (by assumption)).mono ?_; rintro e w' ⟨rfl, rfl⟩)
    refine (l2Of_calls _ _ _ _ ha.1 ha.2 hb.1 hb.2 hc.1 hc.2).mono ?_
    rintro e w1 ⟨v, rfl, o1, b1⟩
    go_wp2_with fail
    go_ret2
    exact ⟨v, rfl, o1, b1⟩
  · rw [show hOf a b c = ([], false) by simp [hOf, (digB_no _).2 hc]]
    go_enter Tryd.func22, Tryd.ntmps22
    go_wp2_with (go_at_call 47; first | (refine (l2Digit_ok _ _ (by assumption)).mono ?_; rintro e w' ⟨rfl, rfl⟩) | (refine (l2Digit_no _ _ (by assumption)).mono ?_; rintro e w' ⟨rfl, rfl⟩))
    go_ret2
    exact ⟨_, rfl, HE.out, (Below.refl _ _).alloc (Nat.le_refl _) _⟩
  · rw [show hOf a b c = ([], false) by simp [hOf, (digB_no _).2 hb]]
    go_enter Tryd.func22, Tryd.ntmps22
    go_wp2_with (go_at_call 47; first | (refine (l2Digit_ok _ _ (by assumption)).mono ?_; rintro e w' ⟨rfl, rfl⟩) | (refine (l2Digit_no _ _ (by assumption)).mono ?_; rintro e w' ⟨rfl, rfl⟩))
    go_ret2
    exact ⟨_, rfl, HE.out, (Below.refl _ _).alloc (Nat.le_refl _) _⟩
  · rw [show hOf a b c = ([], false) by simp [hOf, (digB_no _).2 ha]]
    go_enter Tryd.func22, Tryd.ntmps22
    go_wp2_with (go_at_call 47; first | (refine (l2Digit_ok _ _ (by assumption)).mono ?_; rintro e w' ⟨rfl, rfl⟩) | (refine (l2Digit_no _ _ (by assumption)).mono ?_; rintro e w' ⟨rfl, rfl⟩))
    go_ret2
    exact ⟨_, rfl, HE.out, (Below.refl _ _).alloc (Nat.le_refl _) _⟩
set_option maxHeartbeats 400000 in
theorem l2Same_calls (A B : Option Addr) (c d : Nat) (xs ys : List Int) (w : World) (ha : Rds w w.heap.size .i64 A xs) (hb : Rds w w.heap.size .i64 B ys) (hx : xs.length = 6) (hy : ys.length = 6) :
    Calls Tryd.prog 61 #[.slice A 6 c, .slice B 6 d] w fun e w' => e = .returned (.bool (eqR xs ys)) ∧ ∃ k, w' = w.drewN k := by
  have HX := Lib.hid hx
  have HY := Lib.hid hy
  clear hx hy
  go_enter Tryd.func61, Tryd.ntmps61
  go_wp2
  go_loopw [5] (fun i wr => ∃ k : Nat, k ≤ 6 ∧ i = .int .i64 k ∧ Hid (xs.take k = ys.take k) ∧ ∃ m, wr = w.drewN m) (fun i _ => 6 - (intOf i).toNat)
  case atStart => exact ⟨0, Nat.zero_le _, rfl, Lib.hid (by simp), 0, rfl⟩
  case round =>
    obtain ⟨k, hk, rfl, ht, m, rfl⟩ := hrel
    by_cases hlt : k < 6
    · obtain ⟨b1, o1, rfl, _, c1⟩ := ha.at_ (j := k) (by rw [HX.out]; omega)
      obtain ⟨b2, o2, rfl, _, c2⟩ := hb.at_ (j := k) (by rw [HY.out]; omega)
      have k0 : 0 ≤ (k : Int) := by omega
      have k1 : (k : Int) < 6 := by omega
      by_cases he : xs.getD k 0 = ys.getD k 0
      · have HT := Lib.hid (eqL_step xs ys k (by rw [HX.out]; omega) (by rw [HX.out, HY.out]) he ht.out)
        have e1 : (xs.getD k 0 != ys.getD k 0) = false := by rw [he]; simp
        clear ht
        generalize xs.getD k 0 = x at *
        generalize ys.getD k 0 = y at *
        clear he
        go_wp2
        go_quiet (fail)
        go_wp2
        go_roundw
        case rel => exact ⟨k + 1, by omega, by go_num, HT, _, rfl⟩
        case measure => simp [intOf]; omega
      · have HT := Lib.hid (show eqR xs ys = false from eqL_no xs ys k he)
        have e1 : (xs.getD k 0 != ys.getD k 0) = true := by simpa using he
        clear ht
        generalize xs.getD k 0 = x at *
        generalize ys.getD k 0 = y at *
        clear he
        go_wp2
        go_quiet (fail)
        go_wp2
        go_ret
        exact ⟨ret_b HT.out.symm, _, World.drewN_drewN _ _ _⟩
    · go_wp2
      go_ret
      exact ⟨ret_b (show eqR xs ys = true from eqL_yes xs ys k (by rw [HX.out, HY.out]) (by rw [HX.out]; omega) ht.out).symm, m, rfl⟩
set_option maxHeartbeats 2000000 in
theorem sHexIn_calls (A : Option Addr) (c : Nat) (xs : List Int) (w : World) (ha : Rds w w.heap.size .i64 A xs) (hx : xs.length ≤ maxLen) :
    Calls Tryd.prog 27 #[.slice A xs.length c] w fun e w' => e = .returned (.bool (hIn xs)) ∧ Below w.heap.size w w' := by
  rcases hb : rowB xs with _ | _
  · have HW := Lib.hid (show hIn xs = false by simp [hIn, hb])
    have HR := Lib.hid (fun W (h : Rds W W.heap.size .i64 A xs) => l2Row_calls A c xs W h hx)
    rw [hb] at HR
    clear hb hx
    go_enter Tryd.func27, Tryd.ntmps27
    go_wp2_with fail
    go_quiet ((go_at_call 60; exact quiet_left (HR.out _ ha)))
    go_wp2_with fail
    go_ret
    exact ⟨ret_b HW.out.symm, below_drewN (Below.refl _ _) _⟩
  · obtain ⟨d0, d1, d2, d3, d4, d5, rfl, h0, h1, h2, h3, h4, h5⟩ := ((rowB_iff xs).1 hb).six
    have HW := Lib.hid (show hIn [d0, d1, d2, d3, d4, d5] = eqR [d0, d1, d2, d3, d4, d5] (hexRow d0 d1 d2) by simp [hIn, hb, hexB])
    have HR := Lib.hid (fun W (h : Rds W W.heap.size .i64 A [d0, d1, d2, d3, d4, d5]) => l2Row_calls A c [d0, d1, d2, d3, d4, d5] W h hx)
    rw [hb] at HR
    obtain ⟨B, o, rfl, hB, c0, c1, c2, c3, c4, c5⟩ := six_cells ha
    have ha1 : Rds w.drew w.drew.heap.size .i64 (some ⟨B, o, none⟩) [d0, d1, d2, d3, d4, d5] := ha
    clear hb hx
    show Calls _ _ #[.slice _ 6 _] _ _
    go_enter Tryd.func27, Tryd.ntmps27
    go_wp2_with fail
    go_region_held3 (fun w' => w'.cell? ⟨B, o, none⟩ = some (.int .i64 d0) ∧ w'.cell? ⟨B, o + 1, none⟩ = some (.int .i64 d1) ∧ w'.cell? ⟨B, o + 2, none⟩ = some (.int .i64 d2))
      (first | go_keep | (go_split_ands; refine ⟨?_, ?_, ?_⟩ <;> exact (hb2.cell (p := ⟨B, _, none⟩) hB).trans (by assumption)))
      (first
        | (go_at_call 60; refine (HR.out _ ?_).mono ?_; exact ha; rintro e w' ⟨rfl, rfl⟩)
        | (go_at_call 55; refine (l2Of_calls _ _ _ _ h0.1 h0.2 h1.1 h1.2 h2.1 h2.2).mono ?_; rintro e w2 ⟨v, rfl, o2, hb2⟩; obtain ⟨A2, e2, hv⟩ := o2.slice; have hv2 : v = .slice A2 6 e2 := hv; clear hv; subst hv2)
        | (go_at_call 61; refine (l2Same_calls _ _ _ _ [d0, d1, d2, d3, d4, d5] (hexRow d0 d1 d2) _ ?_ ?_ rfl rfl).mono ?_; exact (ha1.below hb2).more hb2.size; exact o2.rds; rintro e w3 ⟨rfl, k3, rfl⟩))
    repeat go_step
    go_ret
    exact ⟨ret_b HW.out.symm, below_drewN ((Below.refl w.heap.size w).drew.trans hb2) _⟩
theorem mulR_len (xs : List Int) (n : Int) : (mulR xs n).length = xs.length := by simp [mulR]
theorem mulR_step (xs : List Int) (n : Int) (k : Nat) (h : k < xs.length) : (mulR xs n).take k ++ [mulD (xs.getD k 0) n] = (mulR xs n).take (k + 1) := by
  rw [take_succ_getD _ k (by rw [mulR_len]; exact h)]
  congr 2
  simp [mulR, List.getD_eq_getElem?_getD, List.getElem?_eq_getElem h]
set_option maxHeartbeats 2000000 in
theorem sHexTimes_calls (A : Option Addr) (c : Nat) (xs : List Int) (n : Int) (w : World) (ha : Rds w w.heap.size .i64 A xs) (hx : xs.length ≤ maxLen) :
    Calls Tryd.prog 34 #[.slice A xs.length c, .int .i64 n] w (GotL w (hTimes xs n).1 (hTimes xs n).2) := by
  have HE := Lib.hid (own_empty2 w w.heap.size (Nat.le_refl _))
  have HA := Lib.hid ((ha.alloc (Nat.le_refl _) (.cells #[] 3)).more (show w.heap.size ≤ (w.alloc (.cells #[] 3)).heap.size by simp))
  rcases hb : rowB xs with _ | _
  · rw [show hTimes xs n = ([], false) by simp [hTimes, hb]]
    go_enter Tryd.func34, Tryd.ntmps34
    go_wp2_with (go_at_call 60; refine (l2Row_calls _ _ xs _ HA.out hx).mono ?_; rintro e w' ⟨he, rfl⟩; rw [hb] at he; subst he)
    go_ret2
    exact ⟨_, rfl, HE.out, (Below.refl _ _).alloc (Nat.le_refl _) _⟩
  · rcases isD_or n with hn | hn
    · rw [show hTimes xs n = (mulR xs n, true) by simp [hTimes, hb, (digB_iff _).2 hn]]
      have hrx := (rowB_iff xs).1 hb
      have HST := Lib.hid (mulR_step xs n)
      have HLX := Lib.hid (mulR_len xs n)
      have HL := Lib.hid hrx.1
      have HD := Lib.hid hrx.get
      clear hrx
      generalize mulR xs n = zs at *
      go_enter Tryd.func34, Tryd.ntmps34
      go_wp2_with fail
      refine (l2Row_calls _ _ xs _ HA.out hx).mono ?_
      rintro e w' ⟨he, rfl⟩
      rw [hb] at he; subst he
      go_wp2_with fail
      refine (l2Digit_ok _ _ hn).mono ?_
      rintro e w' ⟨rfl, rfl⟩
      clear hb hx
      go_wp2_with fail
      go_loopw [6, 7] (fun v i wr => ∃ k : Nat, k ≤ 6 ∧ i = .int .i64 k ∧ Hid (Own wr w.heap.size v (zs.take k)) ∧ Hid (Below w.heap.size w wr)) (fun _ i _ => 6 - (intOf i).toNat)
      case atStart => exact ⟨0, by omega, rfl, HE, Lib.hid ((Below.refl _ _).alloc (Nat.le_refl _) _)⟩
      case round =>
        obtain ⟨k, hk, rfl, ho, hb⟩ := hrel
        clear HE HA
        by_cases hlt : k < 6
        · obtain ⟨B1, o1, rfl, hB1, c1⟩ := (ha.below hb.out).at_ (j := k) (by have := HL.out; omega)
          have HS := Lib.hid (HST.out k (by have := HL.out; omega))
          have hd := HD.out k
          have k0 : 0 ≤ (k : Int) := by omega
          have k1 : k < xs.length := by have := HL.out; omega
          have hlen : (zs.take k).length ≤ 6 := by rw [List.length_take]; omega
          generalize xs.getD k 0 = x at *
          have hsz := hb.out.size
          go_wp2_with (first
            | (go_at_call 48; refine (l2Times_calls _ _ _ hd.1 hd.2 hn.1 hn.2).mono ?_; rintro e w' ⟨rfl, rfl⟩)
            | (at_builtin; refine wpList_push rfl _ _ rfl wr w.heap.size _ _ _ _ rfl rfl (by exact ho.out) (by omega) hsz ?_; intro v2 w2 ho2 hb2 _))
          rw [HS.out] at ho2
          go_roundw
          case rel => exact ⟨k + 1, by omega, by go_num, Lib.hid ho2, Lib.hid (hb.out.trans hb2)⟩
          case measure => simp [intOf]; omega
        · obtain rfl : k = 6 := by omega
          have ho2 := ho.out
          rw [List.take_of_length_le (by rw [HLX.out, HL.out]; omega)] at ho2
          have HO := Lib.hid ho2
          clear ho2 ho
          go_wp2
          go_ret2
          exact ⟨_, rfl, HO.out, hb.out⟩
    · rw [show hTimes xs n = ([], false) by simp [hTimes, (digB_no _).2 hn]]
      go_enter Tryd.func34, Tryd.ntmps34
      go_wp2_with fail
      refine (l2Row_calls _ _ xs _ HA.out hx).mono ?_
      rintro e w' ⟨he, rfl⟩
      rw [hb] at he; subst he
      go_wp2_with fail
      refine (l2Digit_no _ _ hn).mono ?_
      rintro e w' ⟨rfl, rfl⟩
      go_wp2_with fail
      go_ret2
      exact ⟨_, rfl, HE.out, (Below.refl _ _).alloc (Nat.le_refl _) _⟩
theorem l2Times_d (a b : Int) (w : World) (ha : IsD a) (hb : IsD b) : Calls Tryd.prog 48 #[.int .i64 a, .int .i64 b] w fun e w' => e = .returned (.int .i64 (mulD a b)) ∧ w = w' := l2Times_calls a b w ha.1 ha.2 hb.1 hb.2
set_option maxHeartbeats 2000000 in
theorem sHexInner_calls (A A2 : Option Addr) (c c2 : Nat) (xs ys : List Int) (w : World) (ha : Rds w w.heap.size .i64 A xs) (hx : xs.length ≤ maxLen) (ha2 : Rds w w.heap.size .i64 A2 ys) (hy : ys.length ≤ maxLen) :
    Calls Tryd.prog 36 #[.slice A xs.length c, .slice A2 ys.length c2] w fun e w' => e = .returned (.int .i64 (hInner xs ys)) ∧ Below w.heap.size w w' := by
  rcases hb : rowB xs with _ | _
  · rw [show hInner xs ys = -1 by simp [hInner, hb]]
    go_enter Tryd.func36, Tryd.ntmps36
    go_wp2_with (go_at_call 60; refine (l2Row_calls _ _ xs _ ha hx).mono ?_; rintro e w' ⟨he, rfl⟩; rw [hb] at he; subst he)
    go_ret
    exact ⟨rfl, Below.refl _ _⟩
  · rcases hc : rowB ys with _ | _
    · rw [show hInner xs ys = -1 by simp [hInner, hc]]
      go_enter Tryd.func36, Tryd.ntmps36
      go_wp2_with fail
      refine (l2Row_calls _ _ xs _ ha hx).mono ?_
      rintro e w' ⟨he, rfl⟩
      rw [hb] at he; subst he
      go_wp2_with fail
      refine (l2Row_calls _ _ ys _ ha2 hy).mono ?_
      rintro e w' ⟨he, rfl⟩
      rw [hc] at he; subst he
      go_wp2_with fail
      go_ret
      exact ⟨rfl, Below.refl _ _⟩
    · have hrx := (rowB_iff xs).1 hb
      have hry := (rowB_iff ys).1 hc
      have HI := Lib.hid (show hInner xs ys = innTo xs ys 6 by simp [hInner, hb, hc, innR])
      have HL := Lib.hid hrx.1
      have HL2 := Lib.hid hry.1
      have HD := Lib.hid hrx.get
      have HD2 := Lib.hid hry.get
      have HT := Lib.hid (innTo_d hrx.get hry.get)
      have HST : Hid (∀ k, innTo xs ys (k + 1) = xorI (innTo xs ys k) (mulD (xs.getD k 0) (mulD (ys.getD k 0) (ys.getD k 0)))) := fun k => rfl
      clear hrx hry
      go_enter Tryd.func36, Tryd.ntmps36
      go_wp2_with fail
      refine (l2Row_calls _ _ xs _ ha hx).mono ?_
      rintro e w' ⟨he, rfl⟩
      rw [hb] at he; subst he
      go_wp2_with fail
      refine (l2Row_calls _ _ ys _ ha2 hy).mono ?_
      rintro e w' ⟨he, rfl⟩
      rw [hc] at he; subst he
      clear hb hc hx hy
      go_wp2_with fail
      go_loopw [5, 6] (fun t i wr => ∃ k : Nat, k ≤ 6 ∧ i = .int .i64 k ∧ t = .int .i64 (innTo xs ys k) ∧ ∃ m, wr = w.drewN m) (fun _ i _ => 6 - (intOf i).toNat)
      case atStart => exact ⟨0, by omega, rfl, rfl, 0, rfl⟩
      case round =>
        obtain ⟨k, hk, rfl, rfl, m, rfl⟩ := hrel
        by_cases hlt : k < 6
        · obtain ⟨B1, o1, rfl, hB1, c1⟩ := ha.at_ (j := k) (by have := HL.out; omega)
          obtain ⟨B2, o2, rfl, hB2, c2'⟩ := ha2.at_ (j := k) (by have := HL2.out; omega)
          have hd := HD.out k
          have hd2 := HD2.out k
          have ht := HT.out k
          have HS := Lib.hid (HST.out k)
          have k0 : 0 ≤ (k : Int) := by omega
          have k1 : (k : Int) < xs.length := by have := HL.out; omega
          have k2 : (k : Int) < ys.length := by have := HL2.out; omega
          generalize xs.getD k 0 = x at *
          generalize ys.getD k 0 = y at *
          generalize innTo xs ys k = t at *
          have hsq := mulD_d hd2 hd2
          have hml := mulD_d hd hsq
          have hxr : bits .xor .i64 t (mulD x (mulD y y)) = xorI t (mulD x (mulD y y)) := xor_i64 _ _ ht.1 (by have := ht.2; omega) hml.1 (by have := hml.2; omega)
          have HX := Lib.hid hxr
          clear hxr
          go_wp2_with fail
          go_quiet ((go_at_call 48; first | exact quiet_left (l2Times_d _ _ _ (by assumption) (by assumption)) | exact quiet_add_left (l2Times_d _ _ _ (by assumption) (by assumption))))
          go_wp2_with fail
          go_roundw
          case rel => exact ⟨k + 1, by omega, by go_num, by rw [HS.out, HX.out], _, rfl⟩
          case measure => simp [intOf]; omega
        · obtain rfl : k = 6 := by omega
          go_wp2
          go_ret
          exact ⟨ret_i HI.out.symm, below_drewN (Below.refl _ _) _⟩
end Go.Proofs.YtojjbdpoecmaeaaDoor
