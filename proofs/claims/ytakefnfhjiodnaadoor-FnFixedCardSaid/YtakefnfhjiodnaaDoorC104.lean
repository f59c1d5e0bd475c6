/- Permutations of the program: turned, and what stays. -/
import Derived.Test.YtakefnfhjiodnaaDoorC103
namespace Go.Proofs.YtakefnfhjiodnaaDoor
open Go.RowKit
set_option linter.unusedVariables false
attribute [local irreducible] cN syn

/-- What the first k places have been moved from. -/
def tkN (P : List Nat) (k : Nat) : List Nat := idN.map fun j => if P.idxOf j < k then P.idxOf j else 0
theorem tkN_len (P : List Nat) (k : Nat) : (tkN P k).length = 24 := by simp [tkN, idN]
theorem tkN_get (P : List Nat) (k j : Nat) (h : j < 24) : (tkN P k).getD j 0 = if P.idxOf j < k then P.idxOf j else 0 := by simp [tkN, idN, h]
theorem tkN_zero (P : List Nat) : tkN P 0 = List.replicate 24 0 := by
  refine listN_ext (tkN_len P 0) (by simp) fun i hi => ?_
  rw [tkN_get P 0 i hi, if_neg (by omega)]
  show 0 = (List.replicate 24 0)[i]?.getD 0
  rw [List.getElem?_replicate]
  split <;> rfl
theorem tkN_all {P : List Nat} (h : PermN P) : tkN P 24 = turnN P := by
  refine listN_ext (tkN_len P 24) (turnN_len P) fun i hi => ?_
  rw [tkN_get P 24 i hi, turnN_get i hi, if_pos (idx_lt h i hi)]
theorem tkN_set {P : List Nat} (h : PermN P) (k : Nat) (hk : k < 24) : (tkN P k).set (P.getD k 0) k = tkN P (k + 1) := by
  refine listN_ext (by rw [List.length_set, tkN_len]) (tkN_len P _) fun i hi => ?_
  have hg : ((tkN P k).set (P.getD k 0) k).getD i 0 = if P.getD k 0 = i then k else (tkN P k).getD i 0 := by
    have h1 : i < (tkN P k).length := by rw [tkN_len]; exact hi
    by_cases he : P.getD k 0 = i
    · rw [if_pos he, he]
      simp [h1]
    · rw [if_neg he]
      show ((tkN P k).set (P.getD k 0) k)[i]?.getD 0 = (tkN P k)[i]?.getD 0
      rw [List.getElem?_set_ne he]
  rw [hg, tkN_get P _ i hi, tkN_get P _ i hi]
  by_cases he : P.getD k 0 = i
  · have e : P.idxOf i = k := by rw [← he, idx_get h k hk]
    rw [if_pos he, e, if_pos (by omega)]
  · have e : P.idxOf i ≠ k := fun e => he (by rw [← e, get_idx h i hi])
    rw [if_neg he]
    by_cases h2 : P.idxOf i < k
    · rw [if_pos h2, if_pos (by omega)]
    · rw [if_neg h2, if_neg (by omega)]
theorem intP_set (P : List Nat) (j k : Nat) : (intP P).set j (k : Int) = intP (P.set j k) := by simp [intP, List.map_set]
theorem fixTo_lt (P : List Nat) : ∀ k, fixTo P k < 2 ^ k
  | 0 => by simp [fixTo]
  | k + 1 => by
    have := fixTo_lt P k
    rw [fixTo, Nat.pow_succ]
    split <;> omega
theorem fixTo_rng (P : List Nat) (k : Nat) (hk : k ≤ 24) : (0 : Int) ≤ ((fixTo P k : Nat) : Int) ∧ ((fixTo P k : Nat) : Int) ≤ 16777215 := by
  have h1 := fixTo_lt P k
  have h2 : 2 ^ k ≤ 2 ^ 24 := Nat.pow_le_pow_right (by decide) hk
  rw [show (2 : Nat) ^ 24 = 16777216 by decide] at h2
  omega
theorem fixTo_bit (P : List Nat) (k : Nat) : bitI ((fixTo P k : Nat) : Int) (k : Int) = 0 := by
  rw [bitI_nat, Nat.testBit_lt_two_pow (fixTo_lt P k)]
  rfl
theorem fixTo_add (P : List Nat) (k : Nat) (h : P.getD k 0 = k) : xorI ((fixTo P k : Nat) : Int) (powI (k : Int)) = ((fixTo P (k + 1) : Nat) : Int) := by
  rw [xor_pow _ _ (by omega) (by omega) (fixTo_bit P k), fixTo, if_pos h]
  simp [powI]
set_option maxRecDepth 100000 in
set_option maxHeartbeats 2000000 in
theorem turned_calls (xs : List Int) (w : World) (hp : permB xs = true) :
    Calls Tryd.prog 56 #[.agg (VL xs)] w fun e w' => e = .returned (.agg (VL (intP (turnN (natP xs))))) ∧ Below w.heap.size w w' := by
  have hlx := permB_len hp
  obtain ⟨hP, _⟩ := permB_perm hp
  have HAT := Lib.hid (fun k hk => permB_at hp k hk)
  have HX := Lib.hid (pmInfoL xs hlx)
  have HT := Lib.hid (pmInfoL (intP (turnN (natP xs))) (by rw [intP_len, turnN_len]))
  have HTS := Lib.hid (show (VL (intP (turnN (natP xs)))).size = 24 by rw [VL_size, intP_len, turnN_len])
  have HTA := Lib.hid (VL_all (intP (turnN (natP xs))))
  have HIX := Lib.hid (fun k hk W => idx24 xs hlx k hk W)
  have HML := Lib.hid (fun k => show (intP (tkN (natP xs) k)).length = 24 by rw [intP_len, tkN_len])
  have HMS := Lib.hid (fun k (hk : k < 24) => show (intP (tkN (natP xs) k)).set ((natP xs).getD k 0) (k : Int) = intP (tkN (natP xs) (k + 1)) by rw [intP_set, tkN_set hP k hk])
  have HM0 := Lib.hid (show intP (tkN (natP xs) 0) = z24 by rw [tkN_zero]; rfl)
  have HM24 := Lib.hid (show intP (tkN (natP xs) 24) = intP (turnN (natP xs)) by rw [tkN_all hP])
  generalize intP (turnN (natP xs)) = ts at *
  obtain ⟨M, hM⟩ : ∃ M : Nat → List Int, (fun k => intP (tkN (natP xs) k)) = M := ⟨_, rfl⟩
  have hMk : ∀ k, intP (tkN (natP xs) k) = M k := fun k => by rw [← hM]
  simp only [hMk] at HML HMS HM0 HM24
  generalize hVX : VL xs = VX at *
  clear hVX hM hMk hP hlx hp
  go_enter Tryd.func56, Tryd.ntmps56
  go_wp2_with (first
    | (refine wpList_load_row rfl 48 _ rfl w.heap.size rfl 48 VX (0, 0) _ (three_heap w _ _ _).1 Tryd.underlying48 rfl HX.out ?_))
  go_loopw [7] (fun i wr => ∃ p : Nat, p ≤ 24 ∧ i = .int .i64 p ∧ Hid (wr.heap[w.heap.size + 1]? = some (.cells (VL z24) 48 (0, 0))) ∧ Hid (wr.heap[w.heap.size + 2]? = some (.cells (VL (M p)) 48 (0, 0))) ∧ Hid (Below w.heap.size w wr)) (fun i _ => 24 - (intOf i).toNat)
  case atStart => exact ⟨0, by omega, rfl, Lib.hid (three_heap w _ _ _).2.1, Lib.hid (by rw [HM0.out]; exact (three_heap w _ _ _).2.2.1), Lib.hid (three_heap w _ _ _).2.2.2⟩
  case round =>
    obtain ⟨p, hp, rfl, h1, h2, hbl⟩ := hrel
    by_cases hlt : p < 24
    · have hp1 : (0 : Int) ≤ (p : Int) := by omega
      have hp2 : (p : Int) < 24 := by omega
      obtain ⟨eq1, hq⟩ := HAT.out p hlt
      have hix := HIX.out p hlt
      rw [eq1] at hix
      have HF := Lib.hid (fun X => row_set (X := X) h2.out (by omega) hbl.out (HMS.out p hlt))
      generalize (natP xs).getD p 0 = q at *
      have hq1 : (0 : Int) ≤ (q : Int) := by omega
      have hq2 : (q : Int) < 24 := by omega
      have hcx := VL_at (j := q) _ (by rw [HML.out p]; exact hq) h2.out
      have hfx : wr.frozen? ⟨w.heap.size + 2, q, none⟩ = false := Lib.frozen_of_heap h2.out _
      clear eq1
      generalize (M p).getD q 0 = z at *
      go_wp2_with fail
      go_roundw
      case rel =>
        refine ⟨p + 1, by omega, by go_num, Lib.hid ?_, Lib.hid ?_, Lib.hid ?_⟩
        · exact ((HF.out _ rfl ⟨rfl, rfl, rfl⟩).2.1 _ (by omega)).trans h1.out
        · exact (HF.out _ rfl ⟨rfl, rfl, rfl⟩).1
        · exact (HF.out _ rfl ⟨rfl, rfl, rfl⟩).2.2
      case measure => simp [intOf]; omega
    · obtain rfl : p = 24 := by omega
      have h2' := h2.out
      rw [HM24.out] at h2'
      have H2 := Lib.hid h2'
      clear h2'
      go_wp2_with (first
        | (refine wpList_load_row rfl 48 _ rfl (w.heap.size + 2) rfl 48 (VL ts) (0, 0) _ H2.out Tryd.underlying48 rfl HT.out ?_)
        | (refine wpList_store_row rfl 48 _ _ rfl (w.heap.size + 1) (VL ts) rfl rfl 48 (VL z24) h1.out HT.out (by rw [HTS.out]; rfl) HTA.out ?_))
      exact bodyPost_ret (results_c rfl rfl (setRow_heap _ _ _ _ _ _ h1.out : Blk _ _ _ _) Tryd.underlying48 rfl HT.out) rfl ⟨rfl, bel_row hbl.out (by omega)⟩
set_option maxRecDepth 100000 in
set_option maxHeartbeats 2000000 in
theorem fixed_calls (xs : List Int) (w : World) (hp : permB xs = true) :
    Calls Tryd.prog 59 #[.agg (VL xs)] w fun e w' => e = .returned (.int .u32 ((fixTo (natP xs) 24 : Nat) : Int)) ∧ Below w.heap.size w w' := by
  have hlx := permB_len hp
  have HAT := Lib.hid (fun k hk => permB_at hp k hk)
  have HX := Lib.hid (pmInfoL xs hlx)
  have HIX := Lib.hid (fun k hk W => idx24 xs hlx k hk W)
  have HB := Lib.hid ((Below.refl w.heap.size w).alloc (Nat.le_refl _) (.cells (VL xs) 48))
  have HFA := Lib.hid (fun k => fixTo_add (natP xs) k)
  have HFN := Lib.hid (fun k (h : ¬ (natP xs).getD k 0 = k) => show fixTo (natP xs) (k + 1) = fixTo (natP xs) k by rw [fixTo, if_neg h]; omega)
  have HRG := Lib.hid (fun k hk => fixTo_rng (natP xs) k hk)
  have HF0 := Lib.hid (show fixTo (natP xs) 0 = 0 from rfl)
  generalize hVX : VL xs = VX at *
  clear hVX hlx hp
  go_enter Tryd.func59, Tryd.ntmps59
  go_wp2_with (first
    | (refine wpList_load_row rfl 48 _ rfl w.heap.size rfl 48 VX (0, 0) _ (Blk.new w _ _) Tryd.underlying48 rfl HX.out ?_))
  go_loopw [3, 7] (fun f i wr => ∃ p : Nat, p ≤ 24 ∧ i = .int .i64 p ∧ f = .int .u32 ((fixTo (natP xs) p : Nat) : Int) ∧ Hid (Below w.heap.size w wr)) (fun _ i _ => 24 - (intOf i).toNat)
  case atStart => exact ⟨0, by omega, rfl, rfl, HB⟩
  case round =>
    obtain ⟨p, hp, rfl, rfl, hbl⟩ := hrel
    obtain ⟨hr0, hr1⟩ := HRG.out p hp
    by_cases hlt : p < 24
    · have hp1 : (0 : Int) ≤ (p : Int) := by omega
      have hp2 : (p : Int) < 24 := by omega
      have hp3 : (p : Int) ≤ 23 := by omega
      have hpw := powI_le (p : Int) hp1 hp3
      have hpw0 := powI_pos (p : Int)
      obtain ⟨eq1, hq⟩ := HAT.out p hlt
      have hix := HIX.out p hlt
      rw [eq1] at hix
      by_cases he : (natP xs).getD p 0 = p
      · have HS := Lib.hid (HFA.out p he)
        rw [he] at hix
        clear eq1 he hq
        generalize ((fixTo (natP xs) p : Nat) : Int) = f at *
        go_wp2_with (first
          | (go_at_call 99; refine (wordAt_calls _ _ hp1 hp3).mono ?_; rintro e w' ⟨rfl, rfl⟩)
          | (go_at_call 98; refine (word_add f (powI p) _ hr0 hr1 (by omega) (by omega)).mono ?_; rintro e w' ⟨rfl, rfl⟩))
        go_roundw
        case rel => exact ⟨p + 1, by omega, by go_num, by rw [HS.out], hbl⟩
        case measure => simp [intOf]; omega
      · have HS := Lib.hid (HFN.out p he)
        have hne : ((p : Int) == (((natP xs).getD p 0 : Nat) : Int)) = false := by
          rw [beq_eq_false_iff_ne]
          intro e
          exact he (by omega)
        clear eq1 he
        generalize (natP xs).getD p 0 = q at *
        go_wp2_with fail
        go_roundw
        case rel => exact ⟨p + 1, by omega, by go_num, by rw [HS.out], hbl⟩
        case measure => simp [intOf]; omega
    · obtain rfl : p = 24 := by omega
      go_wp2_with fail
      go_ret
      exact ⟨rfl, hbl.out⟩
end Go.Proofs.YtakefnfhjiodnaaDoor
