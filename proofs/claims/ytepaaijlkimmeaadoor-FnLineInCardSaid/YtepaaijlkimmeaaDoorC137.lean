/- LinePerm, the generators and LineWord, of the program and of the model. -/
import Derived.Test.YtepaaijlkimmeaaDoorC134
import Derived.Test.YtepaaijlkimmeaaDoorC136
import Derived.Test.YtepaaijlkimmeaaDoorC138
import Derived.Test.YtepaaijlkimmeaaDoorQ4
namespace Go.Proofs.YtepaaijlkimmeaaDoor
open Go.RowKit
set_option linter.unusedVariables false
attribute [local irreducible] cN syn

def lpL (a b c d : Int) : List Int × Bool := if gvI a b c d then (lpI (rOf a) (rOf b) (rOf c) (rOf d), true) else ([], false)
theorem lpL_val (a b c d : R23) (h : sqF (a * d - b * c) = true) : lpL a.val b.val c.val d.val = (lpI a b c d, true) := by
  unfold lpL
  rw [gvI_val, h, if_pos rfl]
  simp [rOf_val]
theorem lpL_len (a b c d : Int) : (lpL a b c d).1.length ≤ 1048576 := by
  unfold lpL
  split
  · rw [lpI_len]; decide
  · exact Nat.zero_le _
set_option maxHeartbeats 1000000 in
theorem iLinePerm_calls (a b c d : Int) (w : World) :
    Calls Tryd.prog 8 #[.int .i64 a, .int .i64 b, .int .i64 c, .int .i64 d] w (GotL w (lpL a b c d).1 (lpL a b c d).2) := by
  rcases hg : gvI a b c d with _ | _
  · rw [show lpL a b c d = ([], false) by simp [lpL, hg]]
    obtain ⟨p, q, r, s, hv⟩ := lmFrom_bad a b c d w hg
    unfold lmV at hv
    have H := Lib.hid hv
    clear hv hg
    go_enter Tryd.func8, Tryd.ntmps8
    go_wp2_with fail
    refine H.out.mono ?_
    rintro e w1 ⟨rfl, b1⟩
    go_wp2_with fail
    go_ret2
    exact ⟨_, rfl, Own.nil_ _ _, b1.alloc b1.size _⟩
  · obtain ⟨a, b, c, d, rfl, rfl, rfl, rfl, hs⟩ := gvI_true hg
    rw [lpL_val a b c d hs]
    dsimp only
    have h1 := lmFrom_good a b c d w hs
    have h2 := lm_perm a b c d
    unfold lmV at h1 h2
    have H1 := Lib.hid h1
    have H2 := Lib.hid h2
    have H3 := Lib.hid (fun W => pmList_calls (lpI a b c d) W (lpI_len a b c d))
    clear h1 h2 hs hg
    generalize hts : lpI a b c d = ts at *
    clear hts
    go_enter Tryd.func8, Tryd.ntmps8
    go_wp2_with fail
    refine H1.out.mono ?_
    rintro e w1 ⟨rfl, b1⟩
    have B1 := Lib.hid (b1.alloc b1.size (.cells #[.int .i64 a.val, .int .i64 b.val, .int .i64 c.val, .int .i64 d.val] 42))
    clear b1
    go_wp2_with fail
    refine (H2.out _).mono ?_
    rintro e w2 ⟨rfl, b2⟩
    have B2 := Lib.hid (B1.out.trans (b2.mono B1.out.size))
    clear b2
    generalize VL ts = V at *
    go_wp2_with fail
    refine (H3.out _).mono ?_
    rintro e w3 ⟨v, rfl, o3, b3⟩
    have B3 := Lib.hid (B2.out.trans (b3.mono B2.out.size))
    have O3 := Lib.hid (o3.weak B2.out.size)
    clear b3 o3
    go_wp2_with fail
    go_ret2
    exact ⟨_, rfl, O3.out, B3.out⟩
set_option maxHeartbeats 1000000 in
theorem sLinePerm_calls (a b c d : Int) (w : World) :
    Calls Tryd.prog 9 #[.int .i64 a, .int .i64 b, .int .i64 c, .int .i64 d] w (GotL w (lpL a b c d).1 (lpL a b c d).2) := by
  have HE := Lib.hid (own_empty2 w w.heap.size (Nat.le_refl _))
  have G := Lib.hid (l8Given_calls a b c d)
  rcases hg : gvI a b c d with _ | _
  · rw [show lpL a b c d = ([], false) by simp [lpL, hg]]
    rw [hg] at G
    clear hg
    go_enter Tryd.func9, Tryd.ntmps9
    go_wp2_with fail
    refine (G.out _).mono ?_
    rintro e w' ⟨rfl, rfl⟩
    go_wp2_with fail
    go_ret2
    exact ⟨_, rfl, HE.out, (Below.refl _ _).alloc (Nat.le_refl _) _⟩
  · rw [hg] at G
    obtain ⟨a, b, c, d, rfl, rfl, rfl, rfl, hs⟩ := gvI_true hg
    rw [lpL_val a b c d hs]
    dsimp only
    have HMV := Lib.hid (fun (k : Nat) (hk : k < 24) (W : World) => show Calls Tryd.prog 29 #[.int .i64 a.val, .int .i64 b.val, .int .i64 c.val, .int .i64 d.val, .int .i64 (k : Int)] W fun e w' => e = .returned (.int .i64 ((lpI a b c d).getD k 0)) ∧ W = w' by
      have h := l8Move_calls a b c d (lpOf k) W
      rw [← lpI_get, lpNo_of k hk] at h
      exact h)
    have hl := lpI_len a b c d
    generalize lpI a b c d = zs at *
    have HST := Lib.hid (fun k (hk : k < 24) => show zs.take k ++ [zs.getD k 0] = zs.take (k + 1) from (take_succ_getD zs k (by omega)).symm)
    have HLX := Lib.hid hl
    clear hl hs hg
    generalize (a.val : Int) = a at *
    generalize (b.val : Int) = b at *
    generalize (c.val : Int) = c at *
    generalize (d.val : Int) = d at *
    go_enter Tryd.func9, Tryd.ntmps9
    go_wp2_with fail
    refine (G.out _).mono ?_
    rintro e w' ⟨rfl, rfl⟩
    go_wp2_with fail
    go_loopw [10, 11] (fun v i wr => ∃ k : Nat, k ≤ 24 ∧ i = .int .i64 k ∧ Hid (Own wr w.heap.size v (zs.take k)) ∧ Hid (Below w.heap.size w wr)) (fun _ i _ => 24 - (intOf i).toNat)
    case atStart => exact ⟨0, by omega, rfl, HE, Lib.hid ((Below.refl _ _).alloc (Nat.le_refl _) _)⟩
    case round =>
      obtain ⟨k, hk, rfl, ho, hb⟩ := hrel
      clear HE G
      by_cases hlt : k < 24
      · have HS := Lib.hid (HST.out k hlt)
        have hmv := HMV.out k hlt
        have k0 : 0 ≤ (k : Int) := by omega
        have k1 : (k : Int) < 24 := by omega
        have hlen : (zs.take k).length ≤ 24 := by rw [List.length_take]; omega
        generalize zs.getD k 0 = x at *
        have HM := Lib.hid hmv
        clear hmv HMV
        have hsz := hb.out.size
        go_wp2_with (first
          | (go_at_call 29; refine (HM.out _).mono ?_; rintro e w' ⟨rfl, rfl⟩)
          | (at_builtin; refine wpList_push rfl _ _ rfl wr w.heap.size _ _ _ _ rfl rfl (by exact ho.out) (by omega) hsz ?_; intro v2 w2 ho2 hb2 _))
        rw [HS.out] at ho2
        go_roundw
        case rel => exact ⟨k + 1, by omega, by go_num, Lib.hid ho2, Lib.hid (hb.out.trans hb2)⟩
        case measure => simp [intOf]; omega
      · obtain rfl : k = 24 := by omega
        have ho2 := ho.out
        rw [List.take_of_length_le (by rw [HLX.out]; omega)] at ho2
        have HO := Lib.hid ho2
        clear ho2 ho
        go_wp2
        go_ret2
        exact ⟨_, rfl, HO.out, hb.out⟩
end Go.Proofs.YtepaaijlkimmeaaDoor
