/- Contracts of WordRead, of the program and of its model. -/
import Derived.Test.YtilankmidkikjaaC3
import Derived.PlainAid
namespace Go.Proofs.Ytilankmidkikjaa
open Go.RowKit
open Go.PlainAid (bt get_bt bt_nonneg bt_le)
set_option linter.unusedVariables false

theorem bit_pow (p q : Int) (hp : 0 ≤ p) (hq : 0 ≤ q) : bitI (powI p) q = if q = p then 1 else 0 := by
  obtain ⟨m, rfl⟩ := Int.eq_ofNat_of_zero_le hp
  obtain ⟨n, rfl⟩ := Int.eq_ofNat_of_zero_le hq
  have e : powI (m : Int) = ((2 ^ m : Nat) : Int) := by unfold powI; simp
  rw [e, bitI_nat, Nat.testBit_two_pow]
  by_cases h : m = n
  · subst h; simp
  · have h1 : ¬ ((n : Int) = (m : Int)) := by omega
    simp [h, h1]
theorem bit_xor (a b q : Int) (ha : 0 ≤ a) (hb : 0 ≤ b) (hq : 0 ≤ q) : bitI (xorI a b) q = if bitI a q = bitI b q then 0 else 1 := by
  obtain ⟨A, rfl⟩ := Int.eq_ofNat_of_zero_le ha
  obtain ⟨B, rfl⟩ := Int.eq_ofNat_of_zero_le hb
  obtain ⟨n, rfl⟩ := Int.eq_ofNat_of_zero_le hq
  unfold xorI
  rw [bitI_nat, bitI_nat, bitI_nat, Int.toNat_natCast, Int.toNat_natCast, Nat.testBit_xor]
  cases A.testBit n <;> cases B.testBit n <;> simp
theorem bit_add (t p q : Int) (ht : 0 ≤ t) (hp : 0 ≤ p) (hq : 0 ≤ q) (h : bitI t p = 0) : bitI (t + powI p) q = if q = p then 1 else bitI t q := by
  rw [← xor_pow t p ht hp h, bit_xor t (powI p) q ht (Int.le_of_lt (powI_pos p)) hq, bit_pow p q hp hq]
  by_cases e : q = p
  · subst e; simp [h]
  · simp only [e, if_false]
    rcases bitI_01 t q with h | h <;> simp [h]

/-- The place of the letter k of a text. -/
def plc (k : Nat) : Int := (k : Int) % 7 * 4 + (k : Int) / 7
def rdStep (k : Nat) (b t : Int) : Option Int :=
  if k % 7 = 6 then (if b = 47 then some t else none) else if b = 120 then some (t + powI (plc k)) else if b = 46 then some t else none
def rdTo (s : ByteArray) : Nat → Option Int
  | 0 => some 0
  | k + 1 => (rdTo s k).bind (rdStep k (bt s k))
def rdW (s : ByteArray) : Option Int := if s.size = 27 then rdTo s 27 else none
theorem plc_range (k : Nat) (hk : k < 27) (h6 : ¬ k % 7 = 6) : 0 ≤ plc k ∧ plc k ≤ 23 := by unfold plc; omega
theorem plc_inj (j k : Nat) (hj : j < 27) (hk : k < 27) (j6 : ¬ j % 7 = 6) (k6 : ¬ k % 7 = 6) (h : plc j = plc k) : j = k := by unfold plc at h; omega
theorem rdTo_inv (s : ByteArray) (k : Nat) (hk : k ≤ 27) : ∀ t, rdTo s k = some t → 0 ≤ t ∧ t ≤ 16777215 ∧ ∀ j, k ≤ j → j < 27 → ¬ j % 7 = 6 → bitI t (plc j) = 0 := by
  induction k with
  | zero =>
    intro t h
    simp only [rdTo, Option.some.injEq] at h
    subst h
    exact ⟨by omega, by omega, fun j _ _ _ => by simp [bitI]⟩
  | succ k ih =>
    intro t h
    simp only [rdTo, Option.bind_eq_some_iff] at h
    obtain ⟨u, hu, h⟩ := h
    obtain ⟨i0, i1, i2⟩ := ih (by omega) u hu
    unfold rdStep at h
    by_cases h6 : k % 7 = 6
    · rw [if_pos h6] at h
      split at h
      · simp only [Option.some.injEq] at h; subst h
        exact ⟨i0, i1, fun j hj => i2 j (by omega)⟩
      · cases h
    · rw [if_neg h6] at h
      have hp := plc_range k (by omega) h6
      have hz := i2 k (Nat.le_refl _) (by omega) h6
      split at h
      · simp only [Option.some.injEq] at h; subst h
        have hr := addPl_range u (plc k) i0 i1 hp.1 hp.2 hz
        refine ⟨hr.1, hr.2, fun j hj hj2 hj6 => ?_⟩
        have hq := plc_range j hj2 hj6
        rw [bit_add u (plc k) (plc j) i0 hp.1 hq.1 hz, if_neg (fun e => by have := plc_inj j k hj2 (by omega) hj6 h6 e; omega)]
        exact i2 j (by omega) hj2 hj6
      · split at h
        · simp only [Option.some.injEq] at h; subst h
          exact ⟨i0, i1, fun j hj => i2 j (by omega)⟩
        · cases h
theorem rdTo_none (s : ByteArray) (k n : Nat) (h : k ≤ n) (hn : rdTo s k = none) : rdTo s n = none := by
  induction n with
  | zero => rw [show k = 0 by omega] at hn; cases hn
  | succ n ih =>
    by_cases e : k = n + 1
    · rw [← e]; exact hn
    · simp only [rdTo, ih (by omega), Option.bind_none]
theorem rdW_none (s : ByteArray) (k : Nat) (h : k ≤ 27) (hn : rdTo s k = none) : rdW s = none := by
  unfold rdW; rw [rdTo_none s k 27 h hn]; simp
theorem rdTo_step (s : ByteArray) (k : Nat) (t : Int) (h : rdTo s k = some t) : rdTo s (k + 1) = rdStep k (bt s k) t := by simp only [rdTo, h, Option.bind_some]
theorem rdW_size (s : ByteArray) (h : s.size ≠ 27) : rdW s = none := by unfold rdW; rw [if_neg h]
theorem rdW_all (s : ByteArray) (h : s.size = 27) (k : Nat) (hk : 27 ≤ k) (hk2 : k ≤ 27) : rdW s = rdTo s k := by unfold rdW; rw [if_pos h, show k = 27 by omega]
theorem rdStep_slash (k : Nat) (b t : Int) (h6 : k % 7 = 6) (hb : b = 47) : rdStep k b t = some t := by simp [rdStep, h6, hb]
theorem rdStep_no6 (k : Nat) (b t : Int) (h6 : k % 7 = 6) (hb : b ≠ 47) : rdStep k b t = none := by simp [rdStep, h6, hb]
theorem rdStep_x (k : Nat) (b t : Int) (h6 : ¬ k % 7 = 6) (hb : b = 120) : rdStep k b t = some (t + powI (plc k)) := by simp [rdStep, h6, hb]
theorem rdStep_dot (k : Nat) (b t : Int) (h6 : ¬ k % 7 = 6) (hb : b = 46) : rdStep k b t = some t := by simp [rdStep, h6, hb]
theorem rdStep_no (k : Nat) (b t : Int) (h6 : ¬ k % 7 = 6) (hb : b ≠ 120) (hc : b ≠ 46) : rdStep k b t = none := by simp [rdStep, h6, hb, hc]


set_option maxHeartbeats 1000000 in
theorem iWordRead_calls (s : ByteArray) (w : World) (hs : s.size ≤ maxLen) :
    Calls Try.prog 37 #[.string s] w fun e w' => e = .returned (resW (rdW s)) ∧ w = w' := by
  unfold maxLen at hs
  have hget := get_bt s
  by_cases h27 : s.size = 27
  · have H27 := Lib.hid h27
    have l27 : s.size ≤ 27 := by omega
    have g27 : 27 ≤ s.size := by omega
    have t27 : ((s.size : Int) != 27) = false := by rw [h27]; rfl
    clear h27 hs
    go_enter Try.func37, Try.ntmps37
    go_wp2
    go_loop [4, 14] (fun t i => ∃ (k : Nat) (T : Int), k ≤ 27 ∧ i = .int .i64 k ∧ t = .int .u32 T ∧ Hid (rdTo s k = some T)) (fun _ i => 27 - (intOf i).toNat)
    case atStart => exact ⟨0, 0, Nat.zero_le _, rfl, rfl, Lib.hid rfl⟩
    case round =>
      obtain ⟨k, T, hk, rfl, rfl, ht⟩ := hrel
      obtain ⟨hT0, hT1, hinv⟩ := rdTo_inv s k hk T ht.out
      by_cases hlt : k < 27
      · have hz := hinv k (Nat.le_refl _) hlt
        clear hinv
        have hstep := rdTo_step s k T ht.out
        have b0 := bt_nonneg s k
        have b1 := bt_le s k
        have hlt' : k < s.size := by omega
        clear ht
        by_cases h6 : k % 7 = 6
        · have c6 : ((k : Int) % 7 == 6) = true := by simp; omega
          have d6 : decide ((k : Int) % 7 < 6) = false := by simp; omega
          clear hz
          by_cases hb : bt s k = 47
          · have HS := Lib.hid (hstep.trans (rdStep_slash k _ T h6 hb))
            have e47 : (bt s k == 47) = true := by simp; omega
            have n47 : (bt s k != 47) = false := by simp; omega
            have e46 : (bt s k == 46) = false := by simp; omega
            have n46 : (bt s k != 46) = true := by simp; omega
            have e120 : (bt s k == 120) = false := by simp; omega
            have n120 : (bt s k != 120) = true := by simp; omega
            clear hstep h6 hb b0 b1
            go_wp2_with fail
            go_round
            case rel => exact ⟨k + 1, T, by omega, by go_num, rfl, HS⟩
            case measure => simp [intOf]; omega
          · have HS := Lib.hid (rdW_none s (k + 1) (by omega) (hstep.trans (rdStep_no6 k _ T h6 hb)))
            have e47 : (bt s k == 47) = false := by simp; omega
            have n47 : (bt s k != 47) = true := by simp; omega
            clear hstep h6 hb b0 b1
            go_wp2_with fail
            go_ret2
            exact ⟨by rw [HS.out]; rfl, rfl⟩
        · have c6 : ((k : Int) % 7 == 6) = false := by simp; omega
          have d6 : decide ((k : Int) % 7 < 6) = true := by simp; omega
          have hp := plc_range k hlt h6
          have hz := hz h6
          by_cases hb : bt s k = 120
          · have HS := Lib.hid (hstep.trans (rdStep_x k _ T h6 hb))
            have hr := addPl_range T (plc k) hT0 hT1 hp.1 hp.2 hz
            have hq := pow_val (plc k) hp.1 hp.2
            have HX := Lib.hid (show xorI T (powI ((k : Int) % 7 * 4 + (k : Int) / 7)) = T + powI (plc k) from xor_pow T (plc k) hT0 hp.1 hz)
            have e47 : (bt s k == 47) = false := by simp; omega
            have n47 : (bt s k != 47) = true := by simp; omega
            have e46 : (bt s k == 46) = false := by simp; omega
            have n46 : (bt s k != 46) = true := by simp; omega
            have e120 : (bt s k == 120) = true := by simp; omega
            have n120 : (bt s k != 120) = false := by simp; omega
            have g0 : 0 ≤ (k : Int) % 7 * 4 + (k : Int) / 7 := by omega
            have g1 : (k : Int) % 7 * 4 + (k : Int) / 7 ≤ 23 := by omega
            have g2 : (k : Int) / 7 ≤ 3 := by omega
            have g3 : (k : Int) % 7 ≤ 5 := by omega
            have q0 := powI_pos ((k : Int) % 7 * 4 + (k : Int) / 7)
            have q1 := powI_le ((k : Int) % 7 * 4 + (k : Int) / 7) g0 g1
            clear hstep h6 hb b0 b1 hz hr hp hq
            go_wp2_with (first
              | (go_at_call 61; refine (placeAt_calls _ _ _ (by omega) (by omega) (by omega) (by omega)).mono ?_; rintro e w' ⟨rfl, rfl⟩)
              | (go_at_call 58; refine (wordAt_calls _ _ (by omega) (by omega)).mono ?_; rintro e w' ⟨rfl, rfl⟩)
              | (go_at_call 48; refine (word_add _ _ _ (by omega) (by omega) (by omega) (by omega)).mono ?_; rintro e w' ⟨rfl, rfl⟩))
            go_round
            case rel => exact ⟨k + 1, T + powI (plc k), by omega, by go_num, by rw [HX.out], HS⟩
            case measure => simp [intOf]; omega
          · by_cases hc : bt s k = 46
            · have HS := Lib.hid (hstep.trans (rdStep_dot k _ T h6 hc))
              have e47 : (bt s k == 47) = false := by simp; omega
              have n47 : (bt s k != 47) = true := by simp; omega
              have e46 : (bt s k == 46) = true := by simp; omega
              have n46 : (bt s k != 46) = false := by simp; omega
              have e120 : (bt s k == 120) = false := by simp; omega
              have n120 : (bt s k != 120) = true := by simp; omega
              clear hstep h6 hb hc b0 b1 hz hp
              go_wp2_with fail
              go_round
              case rel => exact ⟨k + 1, T, by omega, by go_num, rfl, HS⟩
              case measure => simp [intOf]; omega
            · have HS := Lib.hid (rdW_none s (k + 1) (by omega) (hstep.trans (rdStep_no k _ T h6 hb hc)))
              have e46 : (bt s k == 46) = false := by simp; omega
              have n46 : (bt s k != 46) = true := by simp; omega
              have e120 : (bt s k == 120) = false := by simp; omega
              have n120 : (bt s k != 120) = true := by simp; omega
              clear hstep h6 hb hc b0 b1 hz hp
              go_wp2_with fail
              go_ret2
              exact ⟨by rw [HS.out]; rfl, rfl⟩
      · have HS := Lib.hid ((rdW_all s H27.out k (by omega) hk).trans ht.out)
        clear hinv ht
        go_wp2
        go_ret2
        exact ⟨by rw [HS.out]; rfl, rfl⟩
  · have HS := Lib.hid (rdW_size s h27)
    have t27 : ((s.size : Int) != 27) = true := by simp; omega
    clear h27
    go_enter Try.func37, Try.ntmps37
    go_wp2
    go_ret2
    exact ⟨by rw [HS.out]; rfl, rfl⟩

set_option maxHeartbeats 1000000 in
theorem sWordRead_calls (s : ByteArray) (w : World) (hs : s.size ≤ maxLen) :
    Calls Try.prog 39 #[.string s] w fun e w' => e = .returned (resW (rdW s)) ∧ w = w' := by
  unfold maxLen at hs
  have hget := get_bt s
  by_cases h27 : s.size = 27
  · have H27 := Lib.hid h27
    have l27 : s.size ≤ 27 := by omega
    have g27 : 27 ≤ s.size := by omega
    have t27 : ((s.size : Int) != 27) = false := by rw [h27]; rfl
    clear h27 hs
    go_enter Try.func39, Try.ntmps39
    go_wp2
    go_loop [4, 5] (fun t i => ∃ (k : Nat) (T : Int), k ≤ 27 ∧ i = .int .i64 k ∧ t = .int .i64 T ∧ Hid (rdTo s k = some T)) (fun _ i => 27 - (intOf i).toNat)
    case atStart => exact ⟨0, 0, Nat.zero_le _, rfl, rfl, Lib.hid rfl⟩
    case round =>
      obtain ⟨k, T, hk, rfl, rfl, ht⟩ := hrel
      obtain ⟨hT0, hT1, hinv⟩ := rdTo_inv s k hk T ht.out
      by_cases hlt : k < 27
      · have hz := hinv k (Nat.le_refl _) hlt
        clear hinv
        have hstep := rdTo_step s k T ht.out
        have b0 := bt_nonneg s k
        have b1 := bt_le s k
        have hlt' : k < s.size := by omega
        clear ht
        by_cases h6 : k % 7 = 6
        · have c6 : ((k : Int) % 7 == 6) = true := by simp; omega
          have d6 : decide ((k : Int) % 7 < 6) = false := by simp; omega
          clear hz
          by_cases hb : bt s k = 47
          · have HS := Lib.hid (hstep.trans (rdStep_slash k _ T h6 hb))
            have e47 : (bt s k == 47) = true := by simp; omega
            have n47 : (bt s k != 47) = false := by simp; omega
            have e46 : (bt s k == 46) = false := by simp; omega
            have n46 : (bt s k != 46) = true := by simp; omega
            have e120 : (bt s k == 120) = false := by simp; omega
            have n120 : (bt s k != 120) = true := by simp; omega
            clear hstep h6 hb b0 b1
            go_wp2_with fail
            go_round
            case rel => exact ⟨k + 1, T, by omega, by go_num, rfl, HS⟩
            case measure => simp [intOf]; omega
          · have HS := Lib.hid (rdW_none s (k + 1) (by omega) (hstep.trans (rdStep_no6 k _ T h6 hb)))
            have e47 : (bt s k == 47) = false := by simp; omega
            have n47 : (bt s k != 47) = true := by simp; omega
            clear hstep h6 hb b0 b1
            go_wp2_with fail
            go_ret2
            exact ⟨by rw [HS.out]; rfl, rfl⟩
        · have c6 : ((k : Int) % 7 == 6) = false := by simp; omega
          have d6 : decide ((k : Int) % 7 < 6) = true := by simp; omega
          have hp := plc_range k hlt h6
          have hz := hz h6
          by_cases hb : bt s k = 120
          · have HS := Lib.hid (hstep.trans (rdStep_x k _ T h6 hb))
            have hr := addPl_range T (plc k) hT0 hT1 hp.1 hp.2 hz
            have hq := pow_val (plc k) hp.1 hp.2
            have HX := Lib.hid (show wrap64 (T + wrap64 (2 ^ (4 * (k % 7) + k / 7))) = T + powI (plc k) by rw [show 4 * (k % 7) + k / 7 = (plc k).toNat by unfold plc; omega]; exact wrap_pow T (plc k) hr.1 hr.2 (by omega) (by omega))
            have e47 : (bt s k == 47) = false := by simp; omega
            have n47 : (bt s k != 47) = true := by simp; omega
            have e46 : (bt s k == 46) = false := by simp; omega
            have n46 : (bt s k != 46) = true := by simp; omega
            have e120 : (bt s k == 120) = true := by simp; omega
            have n120 : (bt s k != 120) = false := by simp; omega
            have g0 : 0 ≤ (k : Int) % 7 * 4 + (k : Int) / 7 := by omega
            have g1 : (k : Int) % 7 * 4 + (k : Int) / 7 ≤ 23 := by omega
            have g2 : (k : Int) / 7 ≤ 3 := by omega
            have g3 : (k : Int) % 7 ≤ 5 := by omega
            have q0 := powI_pos ((k : Int) % 7 * 4 + (k : Int) / 7)
            have q1 := powI_le ((k : Int) % 7 * 4 + (k : Int) / 7) g0 g1
            clear hstep h6 hb b0 b1 hz hr hp hq
            go_wp2_with fail
            go_round
            case rel => exact ⟨k + 1, T + powI (plc k), by omega, by go_num, by rw [HX.out], HS⟩
            case measure => simp [intOf]; omega
          · by_cases hc : bt s k = 46
            · have HS := Lib.hid (hstep.trans (rdStep_dot k _ T h6 hc))
              have e47 : (bt s k == 47) = false := by simp; omega
              have n47 : (bt s k != 47) = true := by simp; omega
              have e46 : (bt s k == 46) = true := by simp; omega
              have n46 : (bt s k != 46) = false := by simp; omega
              have e120 : (bt s k == 120) = false := by simp; omega
              have n120 : (bt s k != 120) = true := by simp; omega
              clear hstep h6 hb hc b0 b1 hz hp
              go_wp2_with fail
              go_round
              case rel => exact ⟨k + 1, T, by omega, by go_num, rfl, HS⟩
              case measure => simp [intOf]; omega
            · have HS := Lib.hid (rdW_none s (k + 1) (by omega) (hstep.trans (rdStep_no k _ T h6 hb hc)))
              have e46 : (bt s k == 46) = false := by simp; omega
              have n46 : (bt s k != 46) = true := by simp; omega
              have e120 : (bt s k == 120) = false := by simp; omega
              have n120 : (bt s k != 120) = true := by simp; omega
              clear hstep h6 hb hc b0 b1 hz hp
              go_wp2_with fail
              go_ret2
              exact ⟨by rw [HS.out]; rfl, rfl⟩
      · have HS := Lib.hid ((rdW_all s H27.out k (by omega) hk).trans ht.out)
        clear hinv ht
        go_wp2
        go_ret2
        exact ⟨by rw [HS.out]; rfl, rfl⟩
  · have HS := Lib.hid (rdW_size s h27)
    have t27 : ((s.size : Int) != 27) = true := by simp; omega
    clear h27
    go_enter Try.func39, Try.ntmps39
    go_wp2
    go_ret2
    exact ⟨by rw [HS.out]; rfl, rfl⟩
end Go.Proofs.Ytilankmidkikjaa
