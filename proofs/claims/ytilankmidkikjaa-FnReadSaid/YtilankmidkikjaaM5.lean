/- Texts of words are read, and what is read has its text: plain facts. -/
import Derived.Test.YtilankmidkikjaaC5
namespace Go.Proofs.Ytilankmidkikjaa
open Go.RowKit
open Go.PlainAid (bt get_bt bt_nonneg bt_le)
set_option linter.unusedVariables false

theorem word_ext (a b : Int) (ha : IsW a) (hb : IsW b) (h : ∀ q : Nat, q < 24 → bitI a q = bitI b q) : a = b := by
  obtain ⟨a0, a1⟩ := ha
  obtain ⟨b0, b1⟩ := hb
  obtain ⟨A, rfl⟩ := Int.eq_ofNat_of_zero_le a0
  obtain ⟨B, rfl⟩ := Int.eq_ofNat_of_zero_le b0
  congr 1
  apply Nat.eq_of_testBit_eq
  intro i
  by_cases hi : i < 24
  · have := h i hi
    rw [bitI_nat, bitI_nat] at this
    cases hA : A.testBit i <;> cases hB : B.testBit i <;> simp [hA, hB] at this <;> rfl
  · have e : 2 ^ 24 ≤ 2 ^ i := Nat.pow_le_pow_right (by omega) (by omega)
    rw [Nat.testBit_lt_two_pow (by omega : A < 2 ^ i), Nat.testBit_lt_two_pow (by omega : B < 2 ^ i)]
theorem plc_of (q : Nat) (hq : q < 24) : ∃ j : Nat, j < 27 ∧ ¬ j % 7 = 6 ∧ plc j = q := ⟨7 * (q % 4) + q / 4, by omega, by omega, by unfold plc; omega⟩

theorem bt_pre (n : Int) (k : Nat) (hk : k < 27) : bt (txt n) k = ((chr n k).toNat : Int) := by
  have hs : k < (txt n).size := by unfold txt; rw [pre_size]; exact hk
  unfold bt
  rw [dif_pos hs]
  have : (txt n)[k]'hs = (chrs n 27)[k]'(by rw [chrs_len]; exact hk) := rfl
  rw [this]
  simp [chrs]

/-- Reading so far, told by the bits. -/
theorem rd_txt (n : Int) (k : Nat) (hk : k ≤ 27) : ∃ t, rdTo (txt n) k = some t ∧ ∀ j, j < 27 → ¬ j % 7 = 6 → bitI t (plc j) = if j < k then bitI n (plc j) else 0 := by
  induction k with
  | zero => exact ⟨0, rfl, fun j _ _ => by simp [bitI]⟩
  | succ k ih =>
    obtain ⟨t, ht, hb⟩ := ih (by omega)
    have hstep := rdTo_step (txt n) k t ht
    have hb0 := bt_pre n k (by omega)
    obtain ⟨i0, i1, i2⟩ := rdTo_inv (txt n) k (by omega) t ht
    by_cases h6 : k % 7 = 6
    · have hc : chr n k = 47 := by unfold chr; rw [if_pos h6]
      rw [hc] at hb0
      refine ⟨t, hstep.trans (rdStep_slash k _ t h6 hb0), fun j hj hj6 => ?_⟩
      rw [hb j hj hj6]
      by_cases hjk : j < k
      · rw [if_pos hjk, if_pos (by omega)]
      · rw [if_neg hjk, if_neg (fun h => by have : j = k := by omega
                                            subst this; exact hj6 h6)]
    · have hp := plc_range k (by omega) h6
      by_cases hx : bitI n (plc k) = 1
      · have hc : chr n k = 120 := by unfold chr; rw [if_neg h6, if_pos hx]
        rw [hc] at hb0
        refine ⟨_, hstep.trans (rdStep_x k _ t h6 hb0), fun j hj hj6 => ?_⟩
        have hq := plc_range j hj hj6
        rw [bit_add t (plc k) (plc j) i0 hp.1 hq.1 (i2 k (Nat.le_refl _) (by omega) h6)]
        by_cases hjk : j = k
        · subst hjk; simp [hx]
        · rw [if_neg (fun e => hjk (plc_inj j k hj (by omega) hj6 h6 e)), hb j hj hj6]
          by_cases h1 : j < k
          · rw [if_pos h1, if_pos (by omega)]
          · rw [if_neg h1, if_neg (by omega)]
      · have hc : chr n k = 46 := by unfold chr; rw [if_neg h6, if_neg hx]
        rw [hc] at hb0
        refine ⟨_, hstep.trans (rdStep_dot k _ t h6 hb0), fun j hj hj6 => ?_⟩
        rw [hb j hj hj6]
        by_cases hjk : j = k
        · subst hjk
          rw [if_neg (by omega), if_pos (by omega)]
          rcases bitI_01 n (plc j) with h | h
          · exact h.symm
          · exact absurd h hx
        · by_cases h1 : j < k
          · rw [if_pos h1, if_pos (by omega)]
          · rw [if_neg h1, if_neg (by omega)]
theorem rdW_txt (n : Int) (h : IsW n) : rdW (txt n) = some n := by
  obtain ⟨t, ht, hb⟩ := rd_txt n 27 (Nat.le_refl _)
  obtain ⟨i0, i1, _⟩ := rdTo_inv (txt n) 27 (Nat.le_refl _) t ht
  have hs : (txt n).size = 27 := by unfold txt; rw [pre_size]
  rw [rdW_all (txt n) hs 27 (Nat.le_refl _) (Nat.le_refl _), ht]
  congr 1
  refine word_ext t n ⟨i0, i1⟩ h fun q hq => ?_
  obtain ⟨j, hj, hj6, e⟩ := plc_of q hq
  have := hb j hj hj6
  rw [if_pos hj, e] at this
  exact this

/-- What has been read: each letter is that of the word's text. -/
theorem rd_back (s : ByteArray) (k : Nat) (hk : k ≤ 27) : ∀ t, rdTo s k = some t → ∀ j, j < k →
    (j % 7 = 6 → bt s j = 47) ∧ (¬ j % 7 = 6 → (bt s j = 120 ∧ bitI t (plc j) = 1) ∨ (bt s j = 46 ∧ bitI t (plc j) = 0)) := by
  induction k with
  | zero => intro t _ j hj; omega
  | succ k ih =>
    intro t h j hj
    have h' := h
    simp only [rdTo, Option.bind_eq_some_iff] at h'
    obtain ⟨u, hu, hs⟩ := h'
    obtain ⟨i0, i1, i2⟩ := rdTo_inv s k (by omega) u hu
    have old := ih (by omega) u hu
    unfold rdStep at hs
    by_cases h6 : k % 7 = 6
    · rw [if_pos h6] at hs
      split at hs
      · rename_i hb
        simp only [Option.some.injEq] at hs; subst hs
        by_cases hjk : j = k
        · subst hjk; exact ⟨fun _ => hb, fun h => absurd h6 h⟩
        · exact old j (by omega)
      · cases hs
    · rw [if_neg h6] at hs
      have hp := plc_range k (by omega) h6
      have hz := i2 k (Nat.le_refl _) (by omega) h6
      split at hs
      · rename_i hb
        simp only [Option.some.injEq] at hs; subst hs
        by_cases hjk : j = k
        · subst hjk
          exact ⟨fun h => absurd h h6, fun _ => .inl ⟨hb, by rw [bit_add u (plc j) (plc j) i0 hp.1 hp.1 hz, if_pos rfl]⟩⟩
        · have o := old j (by omega)
          refine ⟨o.1, fun hj6 => ?_⟩
          have hq := plc_range j (by omega) hj6
          rw [bit_add u (plc k) (plc j) i0 hp.1 hq.1 hz, if_neg (fun e => hjk (plc_inj j k (by omega) (by omega) hj6 h6 e))]
          exact o.2 hj6
      · split at hs
        · rename_i hb
          simp only [Option.some.injEq] at hs; subst hs
          by_cases hjk : j = k
          · subst hjk; exact ⟨fun h => absurd h h6, fun _ => .inr ⟨hb, hz⟩⟩
          · exact old j (by omega)
        · cases hs
theorem txt_of_rdW (s : ByteArray) (t : Int) (h : rdW s = some t) : txt t = s ∧ IsW t ∧ s.size = 27 := by
  have hs : s.size = 27 := by
    by_cases hs : s.size = 27
    · exact hs
    · rw [rdW_size s hs] at h; cases h
  rw [rdW_all s hs 27 (Nat.le_refl _) (Nat.le_refl _)] at h
  obtain ⟨i0, i1, _⟩ := rdTo_inv s 27 (Nat.le_refl _) t h
  have hb := rd_back s 27 (Nat.le_refl _) t h
  refine ⟨?_, ⟨i0, i1⟩, hs⟩
  apply ByteArray.ext
  apply Array.ext
  · have : (txt t).size = 27 := by unfold txt; rw [pre_size]
    exact this.trans hs.symm
  · intro k h1 h2
    have hk : k < 27 := by have h3 : s.data.size = 27 := hs; omega
    have a := bt_pre t k hk
    have b : bt s k = bt (txt t) k := by
      rw [a]
      obtain ⟨b1, b2⟩ := hb k hk
      unfold chr
      by_cases h6 : k % 7 = 6
      · rw [if_pos h6]; exact b1 h6
      · rw [if_neg h6]
        rcases b2 h6 with ⟨x, y⟩ | ⟨x, y⟩
        · rw [if_pos y]; exact x
        · rw [if_neg (by omega)]; exact x
    unfold bt at b
    rw [dif_pos (show k < s.size from h2), dif_pos (show k < (txt t).size from h1)] at b
    have c : (s[k]'h2).toNat = ((txt t)[k]'h1).toNat := by omega
    exact (UInt8.toNat_inj.1 c).symm
end Go.Proofs.Ytilankmidkikjaa
