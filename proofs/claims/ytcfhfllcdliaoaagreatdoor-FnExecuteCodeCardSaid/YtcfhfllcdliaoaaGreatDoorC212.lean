/- Texts up to their last line's end, and their last line: complete and lastLine of the laws. -/
import Derived.Test.YtcfhfllcdliaoaaGreatDoorHA
namespace Go.Proofs.YtcfhfllcdliaoaaGreatDoor
open Go.RowKit
open Go.PlainAid (bt get_bt bt_nonneg bt_le)
set_option linter.unusedVariables false
set_option linter.unusedSimpArgs false
attribute [local irreducible] octS cN octF syn nearL farI

/-- Behind the last end of a line among the first k bytes. -/
def endIx (s : ByteArray) : Nat → Nat
  | 0 => 0
  | k + 1 => if bt s k = 10 then k + 1 else endIx s k
theorem endIx_here {s : ByteArray} {k : Nat} (h : bt s k = 10) : endIx s (k + 1) = k + 1 := by unfold endIx; rw [if_pos h]
theorem endIx_on {s : ByteArray} {k : Nat} (h : ¬ bt s k = 10) : endIx s (k + 1) = endIx s k := by
  conv => lhs; unfold endIx
  rw [if_neg h]
theorem endIx_le (s : ByteArray) : ∀ k, endIx s k ≤ k
  | 0 => Nat.le_refl _
  | k + 1 => by
    unfold endIx
    split
    · exact Nat.le_refl _
    · have := endIx_le s k; omega
theorem endIx_byte (s : ByteArray) : ∀ k, endIx s k = 0 ∨ ∃ j, endIx s k = j + 1 ∧ bt s j = 10
  | 0 => .inl rfl
  | k + 1 => by
    unfold endIx
    split
    · rename_i h; exact .inr ⟨k, rfl, h⟩
    · exact endIx_byte s k
theorem endIx_none (s : ByteArray) : ∀ k j, endIx s k ≤ j → j < k → ¬ bt s j = 10
  | 0, j, _, h => absurd h (by omega)
  | k + 1, j, h1, h2 => by
    by_cases h : bt s k = 10
    · rw [endIx_here h] at h1; omega
    · rw [endIx_on h] at h1
      by_cases e : j = k
      · rw [e]; exact h
      · exact endIx_none s k j h1 (by omega)
def compS (s : ByteArray) : ByteArray := s.extract 0 (endIx s s.size)
def lastS (s : ByteArray) : ByteArray := s.extract (endIx s (s.size - 1)) s.size
theorem compS_list (s : ByteArray) : (compS s).data.toList = s.data.toList.take (endIx s s.size) := by
  unfold compS
  rw [ext_list, List.drop_zero, Nat.sub_zero]
theorem compS_size (s : ByteArray) : (compS s).size ≤ s.size := by unfold compS; rw [ByteArray.size_extract]; omega
theorem take_ends (s : ByteArray) (k : Nat) (hk : k ≤ s.size) : EndsAt 10 (s.data.toList.take (endIx s k)) := by
  rcases endIx_byte s k with h | ⟨j, h, hb⟩
  · rw [h]; exact .inl rfl
  · have hj : j < s.size := by have := endIx_le s k; omega
    have hl : j < s.data.toList.length := lt_list hj
    rw [h, List.take_succ_eq_append_getElem hl]
    exact .inr ⟨s.data.toList.take j, by rw [show s.data.toList[j] = 10 from (byte_eq _ 10).1 (by rw [← bt_at s j hj, hb]; rfl)]⟩
theorem compS_ends (s : ByteArray) : EndsAt 10 (compS s).data.toList := by
  rw [compS_list]
  exact take_ends s s.size (Nat.le_refl _)
theorem compS_parts (s : ByteArray) : partsAt 10 (compS s).data.toList [] = partsAt 10 s.data.toList [] := by
  have h := compS_ends s
  have hd : s.data.toList = (compS s).data.toList ++ s.data.toList.drop (endIx s s.size) := by rw [compS_list, List.take_append_drop]
  conv => rhs; rw [hd]
  rw [partsAt_app 10 _ _ [] (by rcases h with h | h; exact .inr ⟨h, rfl⟩; exact .inl h), partsAt_none 10 (s.data.toList.drop (endIx s s.size)) [] fun x hx e => ?_, List.append_nil]
  obtain ⟨i, hi, rfl⟩ := List.getElem_of_mem hx
  rw [List.length_drop, len_list] at hi
  rw [List.getElem_drop] at e
  refine endIx_none s s.size (endIx s s.size + i) (by omega) (by omega) ?_
  rw [bt_at s _ (by omega), e]
  rfl
theorem compS_exec (s : ByteArray) : execR (compS s) = execR s := by rw [execR_parts, execR_parts, compS_parts]
set_option maxHeartbeats 1000000 in
theorem complete_calls (s : ByteArray) (w : World) (hs : s.size ≤ 100000) :
    Calls Tryz.prog 13 #[.string s] w fun e w' => e = .returned (.string (compS s)) ∧ w = w' := by
  have hget := get_bt s
  have HC := Lib.hid (show compS s = s.extract 0 (endIx s s.size) from rfl)
  generalize compS s = R at *
  go_enter Tryz.func13, Tryz.ntmps13
  go_wp2_with fail
  go_loopw [3] (fun i wr => ∃ k : Nat, k ≤ s.size ∧ i = .int .i64 (k : Int) ∧ wr = w ∧ Hid (endIx s k = endIx s s.size)) (fun i _ => (intOf i).toNat)
  case atStart => exact ⟨s.size, Nat.le_refl _, rfl, rfl, Lib.hid rfl⟩
  case round =>
    obtain ⟨k, hk, rfl, rfl, hh⟩ := hrel
    rcases k with _ | k
    · have HE := Lib.hid (show R = ⟨#[]⟩ from by
        rw [HC.out, ← hh.out]
        show s.extract 0 0 = _
        simp
        rfl)
      have h0 : ¬ (0 : Int) < ((0 : Nat) : Int) := by omega
      go_wp2_with fail
      go_ret
      exact ⟨by rw [HE.out]; rfl, rfl⟩
    · obtain ⟨m, hm⟩ : ∃ m, m = k + 1 := ⟨_, rfl⟩
      have hmk : m - 1 = k := by omega
      have hk1 : (m : Int) - 1 < (s.size : Int) := by omega
      have hk0 : (0 : Int) ≤ (m : Int) - 1 := by omega
      have hm0 : (0 : Int) < (m : Int) := by omega
      have hm1 : (m : Int) ≤ (s.size : Int) := by omega
      have hm2 : (0 : Int) ≤ (m : Int) := by omega
      by_cases h : bt s k = 10
      · have e1 : (bt s (m - 1) == 10) = true := by rw [hmk]; simp [h]
        have HE := Lib.hid (show R = s.extract 0 m from by rw [HC.out, ← hh.out, endIx_here h, hm])
        rw [← hm]
        clear h hh hm hmk
        go_wp2_with fail
        go_ret
        exact ⟨by rw [HE.out]; rfl, rfl⟩
      · have e1 : (bt s (m - 1) == 10) = false := by rw [hmk]; simp [h]
        have HE := Lib.hid ((endIx_on h).symm.trans hh.out)
        have HM := Lib.hid hm
        rw [← hm]
        clear h hh hm hmk
        go_wp2_with fail
        go_roundw
        case rel => exact ⟨k, by omega, by first | rfl | (have := HM.out; congr 1; omega), by first | rfl | trivial, HE⟩
        case measure => have := HM.out; simp [intOf]; omega
set_option maxHeartbeats 1000000 in
theorem lastLine_calls (s : ByteArray) (w : World) (hs : s.size ≤ 1000000000) (h1 : 1 ≤ s.size) :
    Calls Tryz.prog 14 #[.string s] w fun e w' => e = .returned (.string (lastS s)) ∧ w = w' := by
  have hget := get_bt s
  have HC := Lib.hid (show lastS s = s.extract (endIx s (s.size - 1)) s.size from rfl)
  have H1 := Lib.hid h1
  have hw0 : wrap64 ((s.size : Int) - 2) = (s.size : Int) - 2 := by unfold wrap64; omega
  generalize lastS s = R at *
  go_enter Tryz.func14, Tryz.ntmps14
  go_wp2_with fail
  go_loopw [3] (fun i wr => ∃ k : Nat, k ≤ s.size - 1 ∧ i = .int .i64 ((k : Int) - 1) ∧ wr = w ∧ Hid (endIx s k = endIx s (s.size - 1))) (fun i _ => (intOf i + 1).toNat)
  case atStart => exact ⟨s.size - 1, Nat.le_refl _, by congr 1; omega, rfl, Lib.hid rfl⟩
  case round =>
    obtain ⟨k, hk, rfl, rfl, hh⟩ := hrel
    rcases k with _ | k
    · have HE := Lib.hid (show R = s from by
        rw [HC.out, ← hh.out]
        show s.extract 0 s.size = s
        simp)
      go_wp2_with fail
      go_ret
      exact ⟨by rw [HE.out]; rfl, rfl⟩
    · have hk1 : (k : Int) < (s.size : Int) := by omega
      have hk0 : (0 : Int) ≤ (k : Int) := by omega
      have he : ((k + 1 : Nat) : Int) - 1 = (k : Int) := by omega
      rw [he]
      obtain ⟨m, hm⟩ : ∃ m, m = k + 1 := ⟨_, rfl⟩
      have hm0 : (0 : Int) ≤ (m : Int) := by omega
      have hm1 : (m : Int) ≤ (s.size : Int) := by omega
      have hw : wrap64 ((k : Int) + 1) = (m : Int) := by unfold wrap64; omega
      have hw2 : wrap64 ((k : Int) - 1) = (k : Int) - 1 := by unfold wrap64; omega
      by_cases h : bt s k = 10
      · have e1 : (bt s k == 10) = true := by simp [h]
        have HE := Lib.hid (show R = s.extract (k + 1) s.size from by rw [HC.out, ← hh.out, endIx_here h])
        have HE2 := Lib.hid (show R = s.extract m s.size from by rw [HE.out, hm])
        have HM := Lib.hid hm
        clear h hh hm
        go_wp2_with fail
        go_ret
        exact ⟨by first | (rw [HE.out]; rfl) | (rw [HE2.out]; rfl), rfl⟩
      · have e1 : (bt s k == 10) = false := by simp [h]
        have HE := Lib.hid ((endIx_on h).symm.trans hh.out)
        clear h hh hm he
        go_wp2_with fail
        go_roundw
        case rel => exact ⟨k, by omega, by first | rfl | (congr 1; omega), by first | rfl | trivial, HE⟩
        case measure => simp [intOf]
end Go.Proofs.YtcfhfllcdliaoaaGreatDoor
