/- The model's scores, messages, and which words are of the code. -/
import Derived.Test.YtcfhfllcdliaoaaGreatDoorC22
import Derived.Test.YtcfhfllcdliaoaaGreatDoorQ3
import Derived.Test.YtcfhfllcdliaoaaGreatDoorP2
namespace Go.Proofs.YtcfhfllcdliaoaaGreatDoor
open Go.RowKit
set_option linter.unusedVariables false

def scTo (w : Int) (c : Nat) : Nat → Int
  | 0 => 0
  | r + 1 => if bitI w (4 * (c : Int) + (r : Int)) = 1 then xorI (scTo w c r) r else scTo w c r
def scB (n : Int) : Nat → Int
  | 0 => 0
  | r + 1 => if bitI n (r : Int) = 1 then xorI (scB n r) r else scB n r
theorem scB_all : ∀ n : Fin 16, scB (n.val : Int) 4 = scN (n.val : Int) := by decide +kernel
theorem scTo_scB (w : Int) (c r : Nat) (hr : r ≤ 4) : scTo w c r = scB (colI w c) r := by
  induction r with
  | zero => rfl
  | succ r ih => simp only [scTo, scB]; rw [ih (by omega), bit_col w c r (by omega)]
theorem scTo_all (w : Int) (c : Nat) : scTo w c 4 = scoreI w c := by
  rw [scTo_scB w c 4 (by omega)]
  obtain ⟨x, hx⟩ := nib_fin (colI_range w c).1 (colI_range w c).2
  unfold scoreI; rw [hx]; exact scB_all x
theorem scTo_d (w : Int) (c r : Nat) (hr : r ≤ 4) : IsD (scTo w c r) := by
  induction r with
  | zero => exact zero_d
  | succ r ih =>
    simp only [scTo]
    split
    · exact xorI_d (ih (by omega)) ⟨by omega, by omega⟩
    · exact ih (by omega)
theorem l3Score_calls (n : Int) (c : Nat) (w : World) (hc : c < 6) :
    Calls Tryz.prog 141 #[.int .i64 n, .int .i64 c] w fun e w' => e = .returned (.int .i64 (scoreI n c)) ∧ w = w' := by
  have HA := Lib.hid (scTo_all n c)
  go_enter Tryz.func141, Tryz.ntmps141
  go_wp2
  go_loop [5, 6] (fun v i => ∃ r : Nat, r ≤ 4 ∧ i = .int .i64 r ∧ v = .int .i64 (scTo n c r)) (fun _ i => 4 - (intOf i).toNat)
  case atStart => exact ⟨0, by omega, rfl, rfl⟩
  case round =>
    obtain ⟨r, hr, rfl, rfl⟩ := hrel
    by_cases hlt : r < 4
    · have hd := scTo_d n c r hr
      obtain ⟨hd0, hd1⟩ := hd
      have hx : bits .xor .i64 (scTo n c r) (r : Int) = xorI (scTo n c r) r := xor_i64 _ _ hd0 (by omega) (by omega) (by omega)
      have HX := Lib.hid hx
      clear hx
      by_cases hb : bitI n (4 * (c : Int) + (r : Int)) = 1
      · have HS := Lib.hid (show scTo n c (r + 1) = xorI (scTo n c r) r by simp only [scTo]; rw [if_pos hb])
        have hbb : (bitI n (4 * (c : Int) + (r : Int)) == 1) = true := by simp [hb]
        generalize scTo n c r = V at *
        clear hb
        go_wp2_with (go_at_call 43; refine (l1Bit_calls _ _ _ (by omega) (by omega)).mono ?_; rintro e w' ⟨rfl, rfl⟩)
        go_round
        case rel => exact ⟨r + 1, by omega, by go_num, by rw [HS.out, ← HX.out]⟩
        case measure => simp [intOf]; omega
      · have HS := Lib.hid (show scTo n c (r + 1) = scTo n c r by simp only [scTo]; rw [if_neg hb])
        have hbb : (bitI n (4 * (c : Int) + (r : Int)) == 1) = false := by simpa using hb
        generalize scTo n c r = V at *
        clear hb
        go_wp2_with (go_at_call 43; refine (l1Bit_calls _ _ _ (by omega) (by omega)).mono ?_; rintro e w' ⟨rfl, rfl⟩)
        go_round
        case rel => exact ⟨r + 1, by omega, by go_num, by rw [HS.out]⟩
        case measure => simp [intOf]; omega
    · obtain rfl : r = 4 := by omega
      go_wp2
      go_ret
      exact ⟨ret_i HA.out, rfl⟩
theorem scores_take (n : Int) (c : Nat) (hc : c < 6) : (scoresI n).take c ++ [scoreI n c] = (scoresI n).take (c + 1) := by
  match c, hc with
  | 0, _ => rfl
  | 1, _ => rfl
  | 2, _ => rfl
  | 3, _ => rfl
  | 4, _ => rfl
  | 5, _ => rfl
set_option maxHeartbeats 400000 in
theorem l3Scores_calls (n : Int) (w : World) :
    Calls Tryz.prog 99 #[.int .i64 n] w fun e w' => ∃ v, e = .returned v ∧ Own w' w.heap.size v (scoresI n) ∧ Below w.heap.size w w' := by
  have HO := Lib.hid (own_empty w w.heap.size (Nat.le_refl _))
  go_enter Tryz.func99, Tryz.ntmps99
  go_wp2
  go_loopw [3, 4] (fun v i wr => ∃ k : Nat, k ≤ 6 ∧ i = .int .i64 k ∧ Hid (Own wr w.heap.size v ((scoresI n).take k)) ∧ Hid (Below w.heap.size w wr)) (fun _ i _ => 6 - (intOf i).toNat)
  case atStart => exact ⟨0, by omega, rfl, HO, Lib.hid ((Below.refl _ _).alloc (Nat.le_refl _) _)⟩
  case round =>
    obtain ⟨k, hk, rfl, ho, hb⟩ := hrel
    clear HO
    by_cases hlt : k < 6
    · have HS := Lib.hid (scores_take n k hlt)
      have hl : ((scoresI n).take k).length ≤ 6 := by have := List.length_take_le k (scoresI n); omega
      go_wp2_with (first
        | (go_at_call 141; refine (l3Score_calls _ _ _ hlt).mono ?_; rintro e w' ⟨rfl, rfl⟩)
        | (at_builtin; refine wpList_push rfl _ _ rfl wr w.heap.size _ _ _ _ rfl rfl (by exact ho.out) (by omega) hb.out.size ?_; intro v2 w2 ho2 hb2 _))
      rw [HS.out] at ho2
      go_roundw
      case rel => exact ⟨k + 1, by omega, by go_num, Lib.hid ho2, Lib.hid (hb.out.trans hb2)⟩
      case measure => simp [intOf]; omega
    · obtain rfl : k = 6 := by omega
      go_wp2
      go_ret
      exact ⟨_, rfl, ho.out, hb.out⟩
theorem l3Column_calls (n : Int) (c : Nat) (w : World) (h0 : 0 ≤ n) (h1 : n ≤ 16777215) (hc : c < 6) :
    Calls Tryz.prog 197 #[.int .i64 n, .int .i64 c] w fun e w' => e = .returned (.int .i64 (colI n c)) ∧ w = w' := by
  have hv : bits .and .i64 (n / 2 ^ (4 * c)) 15 = colI n c := by
    have h2 : 0 ≤ n / 2 ^ (4 * c) := Int.ediv_nonneg h0 (by exact Int.le_of_lt (Int.pow_pos (by decide)))
    have h3 := Int.ediv_le_self (2 ^ (4 * c)) h0
    rw [and_i64 _ 15 h2 (by omega) (by omega) (by omega)]
    unfold colI andI
    obtain ⟨X, hX⟩ := Int.eq_ofNat_of_zero_le h2
    rw [hX, Int.toNat_natCast, show (15 : Int).toNat = 2 ^ 4 - 1 from rfl, Nat.and_two_pow_sub_one_eq_mod]
    simp
  go_enter Tryz.func197, Tryz.ntmps197
  go_wp2
  go_ret
  exact ⟨rfl, rfl⟩
theorem l3Top_calls (n : Int) (w : World) :
    Calls Tryz.prog 196 #[.int .i64 n] w fun e w' => e = .returned (.int .i64 (topI n)) ∧ w = w' := by
  have HA := Lib.hid (show topTo n 6 = topI n from rfl)
  go_enter Tryz.func196, Tryz.ntmps196
  go_wp2
  go_loop [3, 4] (fun v i => ∃ r : Nat, r ≤ 6 ∧ i = .int .i64 r ∧ v = .int .i64 (topTo n r)) (fun _ i => 6 - (intOf i).toNat)
  case atStart => exact ⟨0, by omega, rfl, rfl⟩
  case round =>
    obtain ⟨r, hr, rfl, rfl⟩ := hrel
    by_cases hlt : r < 6
    · have hd := topTo_01 n r
      have hb := bitI_01 n (4 * (r : Int))
      have hx : bits .xor .i64 (topTo n r) (bitI n (4 * (r : Int))) = topTo n (r + 1) := by
        show _ = xorI _ _
        exact xor_i64 _ _ (by omega) (by omega) (by omega) (by omega)
      have HX := Lib.hid hx
      clear hx hd hb
      go_wp2_with (go_at_call 43; refine (l1Bit_calls _ _ _ (by omega) (by omega)).mono ?_; rintro e w' ⟨rfl, rfl⟩)
      go_round
      case rel => exact ⟨r + 1, by omega, by go_num, by rw [HX.out]⟩
      case measure => simp [intOf]; omega
    · obtain rfl : r = 6 := by omega
      go_wp2
      go_ret
      exact ⟨ret_i HA.out, rfl⟩
def parTo (w : Int) : Nat → Bool
  | 0 => true
  | c + 1 => parTo w c && (parI w c == topI w)
theorem parTo_all (w : Int) : codeInB w = (parTo w 6 && hexB (scoresI w)) := by
  have h : ∀ k : Nat, (List.range k).all (fun c => parI w c == topI w) = parTo w k := by
    intro k
    induction k with
    | zero => rfl
    | succ k ih => rw [List.range_succ, List.all_append, ih]; simp [parTo]
  unfold codeInB
  rw [h 6]
theorem parTo_no (w : Int) (c : Nat) (hc : c < 6) (h : (parI w c == topI w) = false) : codeInB w = false := by
  have : ∀ k : Nat, c < k → parTo w k = false := by
    intro k
    induction k with
    | zero => intro h; omega
    | succ k ih =>
      intro hk
      simp only [parTo]
      by_cases e : c = k
      · subst e; simp [h]
      · rw [ih (by omega)]; rfl
  rw [parTo_all, this 6 hc]; rfl
theorem rowB_scores (n : Int) : rowB (scoresI n) = true := (rowB_iff _).2 (scoresI_row n)
set_option maxHeartbeats 400000 in
theorem l3In_calls (n : Int) (w : World) (h0 : 0 ≤ n) (h1 : n ≤ 16777215) :
    Calls Tryz.prog 146 #[.int .i64 n] w fun e w' => e = .returned (.bool (codeInB n)) ∧ Below w.heap.size w w' := by
  have ht := topTo_01 n 6
  have htt : topI n = 0 ∨ topI n = 1 := ht
  have HNO := Lib.hid (parTo_no n)
  have HAL := Lib.hid (parTo_all n)
  have hP : ∀ c : Nat, wt (colI n c) % 2 = parI n c := fun c => rfl
  go_enter Tryz.func146, Tryz.ntmps146
  go_wp2_with (go_at_call 196; refine (l3Top_calls _ _).mono ?_; rintro e w' ⟨rfl, rfl⟩)
  go_loop [4] (fun i => ∃ c : Nat, c ≤ 6 ∧ i = .int .i64 c ∧ Hid (parTo n c = true)) (fun i => 6 - (intOf i).toNat)
  case atStart => exact ⟨0, by omega, rfl, Lib.hid rfl⟩
  case round =>
    obtain ⟨c, hc, rfl, hp⟩ := hrel
    by_cases hlt : c < 6
    · have hwr := wt_range (colI n c)
      rcases hb : (parI n c == topI n) with _ | _
      · have HF := Lib.hid (HNO.out c hlt hb)
        have hb2 : (wt (colI n c) % 2 != topI n) = true := by rw [hP]; simpa using hb
        generalize hW : wt (colI n c) = W at *
        have HW := Lib.hid hW
        clear hW hb
        go_wp2_with (first
          | (go_at_call 197; refine (l3Column_calls _ _ _ h0 h1 hlt).mono ?_; rintro e w' ⟨rfl, rfl⟩)
          | (go_at_call 71; refine (l1Weight_calls _ _).mono ?_; rintro e w' ⟨rfl, rfl⟩; rw [HW.out]))
        go_ret
        exact ⟨ret_b HF.out.symm, Below.refl _ _⟩
      · have HF := Lib.hid (show parTo n (c + 1) = true by simp only [parTo]; rw [hp.out, hb]; rfl)
        have hb2 : (wt (colI n c) % 2 != topI n) = false := by rw [hP]; simpa using hb
        generalize hW : wt (colI n c) = W at *
        have HW := Lib.hid hW
        clear hW hb
        go_wp2_with (first
          | (go_at_call 197; refine (l3Column_calls _ _ _ h0 h1 hlt).mono ?_; rintro e w' ⟨rfl, rfl⟩)
          | (go_at_call 71; refine (l1Weight_calls _ _).mono ?_; rintro e w' ⟨rfl, rfl⟩; rw [HW.out]))
        go_round
        case rel => exact ⟨c + 1, by omega, by go_num, HF⟩
        case measure => simp [intOf]; omega
    · obtain rfl : c = 6 := by omega
      have HF := Lib.hid (show codeInB n = hIn (scoresI n) by rw [HAL.out, hp.out]; simp [hIn, rowB_scores])
      go_wp2_with fail
      refine (l3Scores_calls n _).mono ?_
      rintro e w1 ⟨v, rfl, o1, b1⟩
      obtain ⟨A, c, rfl⟩ := o1.slice
      go_wp2_with fail
      refine (sHexIn_calls A c (scoresI n) _ o1.rds o1.len_le).mono ?_
      rintro e w2 ⟨rfl, b2⟩
      go_wp2_with fail
      go_ret
      exact ⟨ret_b HF.out.symm, b1.trans (b2.mono b1.size)⟩
theorem sCodeIn_calls (n : Int) (w : World) :
    Calls Tryz.prog 103 #[.int .i64 n] w fun e w' => e = .returned (.bool (cIn n)) ∧ Below w.heap.size w w' := by
  rcases hb : wordB n with _ | _
  · have hn := (wordB_no n).1 hb
    rw [show cIn n = false by simp [cIn, hb]]
    clear hb
    go_enter Tryz.func103, Tryz.ntmps103
    go_wp2_with (go_at_call 42; refine (sWordValid_no _ _ hn).mono ?_; rintro e w' ⟨rfl, rfl⟩)
    go_ret
    exact ⟨rfl, Below.refl _ _⟩
  · have hn := (wordB_iff n).1 hb
    rw [show cIn n = codeInB n by simp [cIn, hb]]
    clear hb
    go_enter Tryz.func103, Tryz.ntmps103
    go_wp2_with (first
      | (go_at_call 42; refine (sWordValid_ok _ _ hn.1 hn.2).mono ?_; rintro e w' ⟨rfl, rfl⟩)
      | (go_at_call 146; refine (l3In_calls _ _ hn.1 hn.2).mono ?_; rintro e w1 ⟨rfl, b1⟩))
    go_ret
    exact ⟨rfl, b1⟩
end Go.Proofs.YtcfhfllcdliaoaaGreatDoor
