import Derived.Test.YtcfhfllcdliaoaaGreatDoorQ3
import Derived.PlainAid
import Derived.Test.YtcfhfllcdliaoaaGreatDoorQ1
import Derived.Laws.IdiomStrings
import Derived.Laws.Concat
import Derived.Deep.RegionHeld3
/- Numbers of a text, lists of them, numbers as texts: what stands in lines of scripts. No program is named here. -/
namespace Go.Proofs.YtcfhfllcdliaoaaGreatDoor
open Go.PlainAid (bt get_bt bt_nonneg bt_le)
set_option linter.unusedVariables false

/-! ### A number -/
def valTo (s : ByteArray) : Nat → Int
  | 0 => 0
  | k + 1 => 10 * valTo s k + (bt s k - 48)
def isDigB (b : Int) : Bool := decide (48 ≤ b ∧ b ≤ 57)
def allD (s : ByteArray) : Nat → Bool
  | 0 => true
  | k + 1 => allD s k && isDigB (bt s k)
def numS (s : ByteArray) : Int × Bool := if (1 ≤ s.size ∧ s.size ≤ 8) ∧ allD s s.size = true then (valTo s s.size, true) else (0, false)
theorem allD_no (s : ByteArray) (k n : Nat) (h : k < n) (hb : isDigB (bt s k) = false) : allD s n = false := by
  induction n with
  | zero => omega
  | succ n ih =>
    unfold allD
    by_cases e : k = n
    · rw [← e, hb]; simp
    · rw [ih (by omega)]; rfl
theorem valTo_rng (s : ByteArray) : ∀ k, allD s k = true → 0 ≤ valTo s k ∧ valTo s k < 10 ^ k
  | 0, _ => ⟨Int.le_refl _, by show (0 : Int) < 1; decide⟩
  | k + 1, h => by
    unfold allD at h
    rw [Bool.and_eq_true] at h
    obtain ⟨h1, h2⟩ := h
    unfold isDigB at h2
    rw [decide_eq_true_eq] at h2
    have := valTo_rng s k h1
    unfold valTo
    rw [Int.pow_succ]
    omega
theorem valTo_lt (s : ByteArray) (k : Nat) (hk : k ≤ 8) (h : allD s k = true) : 0 ≤ valTo s k ∧ valTo s k < 100000000 := by
  have h1 := valTo_rng s k h
  have h2 : (10 : Int) ^ k ≤ 10 ^ 8 := by
    have : (10 : Nat) ^ k ≤ 10 ^ 8 := Nat.pow_le_pow_right (by decide) hk
    exact_mod_cast this
  have h3 : (10 : Int) ^ 8 = 100000000 := by decide
  omega
theorem numS_size {s : ByteArray} (h : ¬ (1 ≤ s.size ∧ s.size ≤ 8)) : numS s = (0, false) := by
  unfold numS; rw [if_neg (fun e => h e.1)]
theorem numS_bad {s : ByteArray} (k : Nat) (h : k < s.size) (hb : isDigB (bt s k) = false) : numS s = (0, false) := by
  unfold numS; rw [if_neg (fun e => by rw [allD_no s k s.size h hb] at e; exact absurd e.2 (by decide))]
theorem numS_good {s : ByteArray} (h : 1 ≤ s.size ∧ s.size ≤ 8) (ha : allD s s.size = true) : numS s = (valTo s s.size, true) := by
  unfold numS; rw [if_pos ⟨h, ha⟩]
theorem numS_rng (s : ByteArray) : 0 ≤ (numS s).1 ∧ (numS s).1 < 100000000 := by
  unfold numS
  split
  · rename_i h; exact valTo_lt s s.size h.1.2 h.2
  · exact ⟨Int.le_refl _, by decide⟩

/-! ### Numbers with one space between -/
def numsGo (s : ByteArray) (n : Int) : Nat → Nat → Nat → List Int → List Int × Bool
  | 0, _, _, out => (out, decide ((out.length : Int) = n))
  | f + 1, i, fr, out =>
    if i = s.size ∨ bt s i = 32 then (if (numS (s.extract fr i)).2 = true then numsGo s n f (i + 1) (i + 1) (out ++ [(numS (s.extract fr i)).1]) else (out, false))
    else numsGo s n f (i + 1) fr out
def numsS (s : ByteArray) (n : Int) : List Int × Bool := numsGo s n (s.size + 1) 0 0 []
theorem numsGo_cut {s : ByteArray} {n : Int} {f i fr : Nat} {out : List Int} {v : Int} (h : i = s.size ∨ bt s i = 32) (hn : numS (s.extract fr i) = (v, true)) : numsGo s n (f + 1) i fr out = numsGo s n f (i + 1) (i + 1) (out ++ [v]) := by
  conv => lhs; unfold numsGo
  rw [if_pos h, hn, if_pos rfl]
theorem numsGo_bad {s : ByteArray} {n : Int} {f i fr : Nat} {out : List Int} {v : Int} (h : i = s.size ∨ bt s i = 32) (hn : numS (s.extract fr i) = (v, false)) : numsGo s n (f + 1) i fr out = (out, false) := by
  conv => lhs; unfold numsGo
  rw [if_pos h, hn]
  rfl
theorem numsGo_on {s : ByteArray} {n : Int} {f i fr : Nat} {out : List Int} (h : ¬ (i = s.size ∨ bt s i = 32)) : numsGo s n (f + 1) i fr out = numsGo s n f (i + 1) fr out := by
  conv => lhs; unfold numsGo
  rw [if_neg h]

/-! ### A number as a text; a list as a text -/
def decN (n : Nat) : List UInt8 := if n < 10 then [UInt8.ofNat (48 + n)] else decN (n / 10) ++ [UInt8.ofNat (48 + n % 10)]
def decB (n : Int) : ByteArray := ⟨(decN n.toNat).toArray⟩
theorem decN_small {n : Nat} (h : n < 10) : decN n = [UInt8.ofNat (48 + n)] := by unfold decN; rw [if_pos h]
theorem decN_big {n : Nat} (h : ¬ n < 10) : decN n = decN (n / 10) ++ [UInt8.ofNat (48 + n % 10)] := by
  conv => lhs; unfold decN
  rw [if_neg h]
theorem decN_len : ∀ (k n : Nat), n < 10 ^ (k + 1) → (decN n).length ≤ k + 1
  | 0, n, h => by rw [decN_small (by omega)]; simp
  | k + 1, n, h => by
    by_cases hn : n < 10
    · rw [decN_small hn]; simp
    · have := decN_len k (n / 10) (by rw [Nat.pow_succ] at h; omega)
      rw [decN_big hn, List.length_append]
      simp only [List.length_cons, List.length_nil]
      omega
/-- The text of the first k numbers of a list, a space between. -/
def saidTo (L : List Int) : Nat → List UInt8
  | 0 => []
  | k + 1 => (if 0 < k then saidTo L k ++ [32] else saidTo L k) ++ decN (L.getD k 0).toNat
def saidS (a : List Int × Bool) : ByteArray := if a.2 then ⟨(saidTo a.1 a.1.length ++ [10]).toArray⟩ else ⟨#[110, 111, 10]⟩
end Go.Proofs.YtcfhfllcdliaoaaGreatDoor
/- The model's numbers of texts: l10Number. -/
namespace Go.Proofs.YtcfhfllcdliaoaaGreatDoor
open Go.RowKit
open Go.PlainAid (bt get_bt bt_nonneg bt_le)
set_option linter.unusedVariables false
set_option linter.unusedSimpArgs false

set_option maxHeartbeats 1000000 in
theorem l10Number_calls (s : ByteArray) (w : World) (hs : s.size ≤ maxLen) :
    Calls Tryz.prog 147 #[.string s] w fun e w' => e = .returned (.tuple #[.int .i64 (numS s).1, .bool (numS s).2]) ∧ w = w' := by
  unfold maxLen at hs
  by_cases h18 : 1 ≤ s.size ∧ s.size ≤ 8
  · have hget := get_bt s
    have a1 : (1 : Int) ≤ (s.size : Int) := by omega
    have a8 : (s.size : Int) ≤ 8 := by omega
    have H18 := Lib.hid h18
    have HIN := Lib.hid (fun W => l6In_ok (s.size : Int) 1 8 W a1 a8)
    have HGO := Lib.hid (fun ha => numS_good h18 ha)
    have HNO := Lib.hid (fun k h hb => numS_bad (s := s) k h hb)
    generalize hR : numS s = R at *
    clear hR
    go_enter Tryz.func147, Tryz.ntmps147
    go_wp2_with fail
    refine (HIN.out _).mono ?_
    rintro e w' ⟨rfl, rfl⟩
    go_wp2_with fail
    go_loop [4, 5] (fun t i => ∃ k : Nat, k ≤ s.size ∧ i = .int .i64 k ∧ t = .int .i64 (valTo s k) ∧ Hid (allD s k = true)) (fun _ i => s.size - (intOf i).toNat)
    case atStart => exact ⟨0, Nat.zero_le _, rfl, rfl, Lib.hid rfl⟩
    case round =>
      obtain ⟨k, hk, rfl, rfl, hd⟩ := hrel
      by_cases hlt : k < s.size
      · have b0 := bt_nonneg s k
        have b1 := bt_le s k
        by_cases hb : 48 ≤ bt s k ∧ bt s k ≤ 57
        · have n1 : ¬ bt s k < 48 := by omega
          have n2 : ¬ 57 < bt s k := by omega
          have hd2 : allD s (k + 1) = true := by unfold allD; rw [hd.out]; unfold isDigB; simpa using hb
          have hv := valTo_lt s k (by omega) hd.out
          have HD2 := Lib.hid hd2
          have HV := Lib.hid (show valTo s (k + 1) = 10 * valTo s k + (bt s k - 48) from rfl)
          have hu : wrap64 (10 * valTo s k + (bt s k - 48)) = 10 * valTo s k + (bt s k - 48) := by unfold wrap64; omega
          have hm : wrap64 (10 * valTo s k) = 10 * valTo s k := by unfold wrap64; omega
          have hm2 : IntKind.i64.wrap (10 * valTo s k) = 10 * valTo s k := by rw [IntKind.wrap_i64]; omega
          clear hd2 hd hb
          go_wp2_with fail
          go_round
          case rel => exact ⟨k + 1, by omega, by go_num, by rw [HV.out], HD2⟩
          case measure => simp [intOf]; omega
        · have HN := Lib.hid (HNO.out k hlt (by unfold isDigB; simpa using hb))
          clear hd
          rcases (by omega : bt s k < 48 ∨ (¬ bt s k < 48 ∧ 57 < bt s k)) with h1 | ⟨h1, h2⟩
          all_goals
            clear hb
            go_wp2_with fail
            go_ret2
            exact ⟨by rw [HN.out]; rfl, rfl⟩
      · obtain rfl : k = s.size := by omega
        have HN := Lib.hid (HGO.out hd.out)
        clear hd
        go_wp2_with fail
        go_ret2
        exact ⟨by rw [HN.out]; rfl, rfl⟩
  · have HN := Lib.hid (numS_size h18)
    have hno : (s.size : Int) < 1 ∨ 8 < (s.size : Int) := by omega
    have HIN := Lib.hid (fun W => l6In_no (s.size : Int) 1 8 W hno)
    clear hno h18
    go_enter Tryz.func147, Tryz.ntmps147
    go_wp2_with fail
    refine (HIN.out _).mono ?_
    rintro e w' ⟨rfl, rfl⟩
    go_wp2_with fail
    go_ret2
    exact ⟨by rw [HN.out]; rfl, rfl⟩
end Go.Proofs.YtcfhfllcdliaoaaGreatDoor
/- The model's lists of numbers of texts: l10Numbers. -/
namespace Go.Proofs.YtcfhfllcdliaoaaGreatDoor
open Go.RowKit
open Go.PlainAid (bt get_bt bt_nonneg bt_le)
set_option linter.unusedVariables false
set_option linter.unusedSimpArgs false

theorem ext_size (s : ByteArray) (f k : Nat) : (s.extract f k).size ≤ s.size := by
  rw [ByteArray.size_extract]; omega
set_option maxHeartbeats 2000000 in
theorem l10Numbers_calls (s : ByteArray) (n : Int) (w : World) (hs : s.size ≤ 4096) :
    Calls Tryz.prog 105 #[.string s, .int .i64 n] w fun e w' => ∃ v, e = .returned (.tuple #[v, .bool (numsS s n).2]) ∧ Own w' w.heap.size v (numsS s n).1 ∧ Below w.heap.size w w' := by
  have HO := Lib.hid (own_empty w w.heap.size (Nat.le_refl _))
  have hget := get_bt s
  have H0 := Lib.hid (show numsGo s n (s.size + 1 - 0) 0 0 [] = numsS s n from rfl)
  generalize numsS s n = R at *
  go_enter Tryz.func105, Tryz.ntmps105
  go_wp2_with fail
  go_loopw [6, 7, 8] (fun v fr i wr => ∃ (k f : Nat) (L : List Int), k ≤ s.size + 1 ∧ f ≤ k ∧ L.length ≤ k ∧ i = .int .i64 (k : Int) ∧ fr = .int .i64 (f : Int) ∧ Hid (numsGo s n (s.size + 1 - k) k f L = R) ∧ Hid (Own wr w.heap.size v L) ∧ Hid (Below w.heap.size w wr)) (fun _ _ i _ => s.size + 1 - (intOf i).toNat)
  case atStart => exact ⟨0, 0, [], by omega, by omega, by simp, rfl, rfl, H0, HO, Lib.hid ((Below.refl _ _).alloc (Nat.le_refl _) _)⟩
  case round =>
    obtain ⟨k, f, L, hk, hf, hL, rfl, rfl, hR, ho, hb⟩ := hrel
    clear HO H0
    by_cases hlt : k ≤ s.size
    · have b0 := bt_nonneg s k
      have b1 := bt_le s k
      have hk1 : (k : Int) ≤ (s.size : Int) := by omega
      have hf1 : (f : Int) ≤ (k : Int) := by omega
      have hf0 : (0 : Int) ≤ (f : Int) := by omega
      have hk0 : (0 : Int) ≤ (k : Int) := by omega
      have hfuel : s.size + 1 - k = (s.size + 1 - (k + 1)) + 1 := by omega
      rw [hfuel] at hR
      by_cases hc : k = s.size ∨ bt s k = 32
      · have HX := Lib.hid (fun W => l10Number_calls (s.extract f k) W (by have := ext_size s f k; unfold maxLen; omega))
        rcases hn : numS (s.extract f k) with ⟨x, b⟩
        rw [hn] at HX
        rcases b with _ | _
        · have HR := Lib.hid ((numsGo_bad hc hn).symm.trans hR.out)
          rcases (by omega : k = s.size ∨ (k < s.size ∧ bt s k = 32)) with h1 | ⟨h1, h2⟩
          · have e1 : ((k : Int) == (s.size : Int)) = true := by simp; omega
            clear hc hn hR hfuel h1
            go_wp2_with fail
            refine (HX.out _).mono ?_
            rintro e w' ⟨rfl, rfl⟩
            go_wp2_with fail
            go_ret2
            exact ⟨_, by rw [← HR.out]; rfl, by rw [← HR.out]; exact ho.out, hb.out⟩
          · have e1 : ((k : Int) == (s.size : Int)) = false := by simp; omega
            have e2 : (bt s k == 32) = true := by simp [h2]
            clear hc hn hR hfuel
            go_wp2_with fail
            refine (HX.out _).mono ?_
            rintro e w' ⟨rfl, rfl⟩
            go_wp2_with fail
            go_ret2
            exact ⟨_, by rw [← HR.out]; rfl, by rw [← HR.out]; exact ho.out, hb.out⟩
        · have HR := Lib.hid ((numsGo_cut hc hn).symm.trans hR.out)
          rcases (by omega : k = s.size ∨ (k < s.size ∧ bt s k = 32)) with h1 | ⟨h1, h2⟩
          · have e1 : ((k : Int) == (s.size : Int)) = true := by simp; omega
            clear hc hn hR hfuel h1
            go_wp2_with fail
            refine (HX.out _).mono ?_
            rintro e w' ⟨rfl, rfl⟩
            go_wp2_with (at_builtin; refine wpList_push rfl _ _ rfl wr w.heap.size _ _ _ _ rfl rfl (by exact ho.out) (by omega) hb.out.size ?_; intro v2 w2 ho2 hb2 _)
            go_roundw
            case rel => exact ⟨k + 1, k + 1, L ++ [x], by omega, by omega, by simp; omega, by go_num, by go_num, HR, Lib.hid ho2, Lib.hid (hb.out.trans hb2)⟩
            case measure => simp [intOf]; omega
          · have e1 : ((k : Int) == (s.size : Int)) = false := by simp; omega
            have e2 : (bt s k == 32) = true := by simp [h2]
            clear hc hn hR hfuel
            go_wp2_with fail
            refine (HX.out _).mono ?_
            rintro e w' ⟨rfl, rfl⟩
            go_wp2_with (at_builtin; refine wpList_push rfl _ _ rfl wr w.heap.size _ _ _ _ rfl rfl (by exact ho.out) (by omega) hb.out.size ?_; intro v2 w2 ho2 hb2 _)
            go_roundw
            case rel => exact ⟨k + 1, k + 1, L ++ [x], by omega, by omega, by simp; omega, by go_num, by go_num, HR, Lib.hid ho2, Lib.hid (hb.out.trans hb2)⟩
            case measure => simp [intOf]; omega
      · have HR := Lib.hid ((numsGo_on hc).symm.trans hR.out)
        have h1 : k < s.size := by omega
        have e1 : ((k : Int) == (s.size : Int)) = false := by simp; omega
        have e2 : (bt s k == 32) = false := by simp; omega
        clear hc hR hfuel
        go_wp2_with fail
        go_roundw
        case rel => exact ⟨k + 1, f, L, by omega, by omega, by omega, by go_num, rfl, HR, ho, hb⟩
        case measure => simp [intOf]; omega
    · obtain rfl : k = s.size + 1 := by omega
      obtain ⟨A, c, rfl⟩ := ho.out.slice
      rw [Nat.sub_self] at hR
      have HR := Lib.hid hR.out
      clear hR
      go_wp2_with fail
      go_ret2
      exact ⟨_, by rw [← HR.out]; rfl, by rw [← HR.out]; exact ho.out, hb.out⟩
end Go.Proofs.YtcfhfllcdliaoaaGreatDoor
/- The model's numbers as texts: l6Dec. -/
namespace Go.Proofs.YtcfhfllcdliaoaaGreatDoor
open Go.RowKit
set_option linter.unusedVariables false
set_option linter.unusedSimpArgs false

theorem conv_at (W : World) (g : Nat) (x : Int) (h0 : 0 ≤ x) (h1 : x < 256) (hc : W.cell? ⟨g, 0, none⟩ = some (.int .u8 x)) : (convert 22 9 (.slice (some ⟨g, 0, none⟩) 1 1)).run Tryz.prog W = .ok (.string ⟨#[UInt8.ofNat x.toNat]⟩) W := by
  obtain ⟨n, rfl⟩ := Int.eq_ofNat_of_zero_le h0
  have hu : (UInt8.ofNat n).toNat = n := by simp; omega
  exact run_convert_bytes_back (P := Tryz.prog) _ 22 9 5 ⟨g, 0, none⟩ 1 [UInt8.ofNat n] Tryz.underlying22 Tryz.underlying5 Tryz.underlying9 (fun j hj => by
    obtain rfl : j = 0 := by simp at hj; omega
    simp only [List.getElem_cons_zero, hu]
    exact hc)
theorem conv_one (W : World) (x : Int) (h0 : 0 ≤ x) (h1 : x < 256) : (convert 22 9 (.slice (some ⟨W.heap.size, 0, none⟩) 1 1)).run Tryz.prog (W.alloc (.cells #[.int .u8 x] 5)) = .ok (.string ⟨#[UInt8.ofNat x.toNat]⟩) (W.alloc (.cells #[.int .u8 x] 5)) :=
  conv_at _ _ x h0 h1 (World.cell?_alloc_mark W _ _ _ 0)
set_option maxRecDepth 100000 in
set_option maxHeartbeats 1000000 in
theorem l6Dec_small (n : Nat) (hn : n < 10) (w : World) :
    Calls Tryz.prog 38 #[.int .i64 (n : Int)] w fun e w' => e = .returned (.string (decB (n : Int))) ∧ Below w.heap.size w w' := by
  have hn1 : (n : Int) < 10 := by omega
  have hn0 : (0 : Int) ≤ (n : Int) := by omega
  have HC := Lib.hid (fun W => conv_one W (48 + (n : Int)) (by omega) (by omega))
  have HD := Lib.hid (show decB (n : Int) = ⟨#[UInt8.ofNat (48 + (n : Int)).toNat]⟩ by unfold decB; rw [Int.toNat_natCast, decN_small hn, show (48 + (n : Int)).toNat = 48 + n by omega])
  generalize decB (n : Int) = R at *
  go_enter Tryz.func38, Tryz.ntmps38
  go_wp2_with fail
  rw [HC.out]
  go_wp2_with fail
  go_ret
  exact ⟨by rw [HD.out]; rfl, (Below.refl _ _).alloc (Nat.le_refl _) _⟩
theorem decB_big (n : Nat) (h : ¬ n < 10) : decB (n : Int) = decB ((n : Int) / 10) ++ ⟨#[UInt8.ofNat (48 + (n : Int) % 10).toNat]⟩ := by
  unfold decB
  rw [Int.toNat_natCast, decN_big h, show ((n : Int) / 10).toNat = n / 10 by omega, show (48 + (n : Int) % 10).toNat = 48 + n % 10 by omega]
  exact (ByteArray.mk_append_mk (decN (n / 10)) [UInt8.ofNat (48 + n % 10)]).symm
set_option maxRecDepth 100000 in
set_option maxHeartbeats 2000000 in
theorem l6Dec_big (n : Nat) (h : ¬ n < 10) (h18 : n < 1000000000000000000) (IH0 : ∀ W, Calls Tryz.prog 38 #[.int .i64 ((n / 10 : Nat) : Int)] W fun e w' => e = .returned (.string (decB ((n / 10 : Nat) : Int))) ∧ Below W.heap.size W w') (hsz : (decB ((n / 10 : Nat) : Int)).size ≤ 1000) (w : World) :
    Calls Tryz.prog 38 #[.int .i64 (n : Int)] w fun e w' => e = .returned (.string (decB (n : Int))) ∧ Below w.heap.size w w' := by
  have hn1 : ¬ (n : Int) < 10 := by omega
  have hn0 : (0 : Int) ≤ (n : Int) := by omega
  have hn2 : (n : Int) < 1000000000000000000 := by omega
  have eq : ((n / 10 : Nat) : Int) = (n : Int) / 10 := by omega
  rw [eq] at IH0 hsz
  have HB := Lib.hid (decB_big n h)
  have hadd : ∀ W, (Op.stringOp .add (decB ((n : Int) / 10)) ⟨#[UInt8.ofNat (48 + (n : Int) % 10).toNat]⟩).run Tryz.prog W = .ok (.string (decB (n : Int))) W := fun W => by
    rw [run_string_add_sum W _ _ (by have : (⟨#[UInt8.ofNat (48 + (n : Int) % 10).toNat]⟩ : ByteArray).size = 1 := rfl; omega), ← HB.out]
  have HC := Lib.hid (fun W => conv_one W (48 + (n : Int) % 10) (by omega) (by omega))
  have HA := Lib.hid (fun W g hc => conv_at W g (48 + (n : Int) % 10) (by omega) (by omega) hc)
  have IH := Lib.hid IH0
  have hr0 : (0 : Int) ≤ (n : Int) % 10 := by omega
  have hr1 : (n : Int) % 10 < 10 := by omega
  have HADD := Lib.hid hadd
  have HR0 := Lib.hid hr0
  have HN2 := Lib.hid hn2
  have hm : ¬ (n : Int) < -9223372036854775807 := by omega
  have hm2 : ¬ (n : Int) < 0 := by omega
  have HR1 := Lib.hid hr1
  clear IH0 hsz eq HB h hadd hr0 hr1 h18 hn2
  generalize decB (n : Int) = R at *
  generalize decB ((n : Int) / 10) = Q at *
  go_enter Tryz.func38, Tryz.ntmps38
  go_wp2_with fail
  have hadd := HADD.out
  have hr0 := HR0.out
  have hr1 := HR1.out
  have hn2 := HN2.out
  have v1 : IntKind.i64.wrap ((n : Int) / 10) = (n : Int) / 10 := by rw [IntKind.wrap_i64]; omega
  have v2 : (n : Int).tmod 10 = (n : Int) % 10 := Int.tmod_eq_emod_of_nonneg hn0
  have v3 : IntKind.i64.wrap (48 + (n : Int) % 10) = 48 + (n : Int) % 10 := by rw [IntKind.wrap_i64]; omega
  have v4 : IntKind.u8.wrap (48 + (n : Int) % 10) = 48 + (n : Int) % 10 := by rw [IntKind.wrap_u8]; omega
  clear hr0 hr1 hn2 hm hm2 hn1
  refine wp_region_held_drew (S := fun _ => True) (by kernel_rfl) trivial (fun hd => ?_)
  refine wpAnyH_take (i := 0) (v := .int .i64 (n : Int)) rfl (by kernel_rfl) (by kernel_rfl) (by kernel_rfl) (fun _ _ _ h => h) (Or.inl ⟨by kernel_rfl, fun w _ => by kernel_rfl⟩) hd ?_
  change wpAnyH _ _ _ _ _ _ _ (Act.put _ (some 18) (.int .i64 (n : Int))) _
  simp only [Act.put, List.setIfInBounds_toArray, List.set_cons_zero, List.set_cons_succ]
  refine wpAnyH_take (i := 1) (v := .int .i64 ((n : Int) / 10)) rfl (by kernel_rfl) (by kernel_rfl) (by kernel_rfl) (fun _ _ _ h => h) (Or.inl ⟨by kernel_rfl, fun w hS => by go_simp⟩) hd ?_
  change wpAnyH _ _ _ _ _ _ _ (Act.put _ (some 19) (.int .i64 ((n : Int) / 10))) _
  simp only [Act.put, List.setIfInBounds_toArray, List.set_cons_zero, List.set_cons_succ]
  refine wpAnyH_take (i := 3) (v := .int .i64 (n : Int)) rfl (by kernel_rfl) (by kernel_rfl) (by kernel_rfl) (fun _ _ _ h => h) (Or.inl ⟨by kernel_rfl, fun w _ => by kernel_rfl⟩) hd ?_
  change wpAnyH _ _ _ _ _ _ _ (Act.put _ (some 21) (.int .i64 (n : Int))) _
  simp only [Act.put, List.setIfInBounds_toArray, List.set_cons_zero, List.set_cons_succ]
  refine wpAnyH_take (i := 4) (v := .int .i64 ((n : Int) % 10)) rfl (by kernel_rfl) (by kernel_rfl) (by kernel_rfl) (fun _ _ _ h => h) (Or.inl ⟨by kernel_rfl, fun w hS => by go_simp⟩) hd ?_
  change wpAnyH _ _ _ _ _ _ _ (Act.put _ (some 22) (.int .i64 ((n : Int) % 10))) _
  simp only [Act.put, List.setIfInBounds_toArray, List.set_cons_zero, List.set_cons_succ]
  refine wpAnyH_take (i := 5) (v := .int .i64 (48 + (n : Int) % 10)) rfl (by kernel_rfl) (by kernel_rfl) (by kernel_rfl) (fun _ _ _ h => h) (Or.inl ⟨by kernel_rfl, fun w hS => by go_simp⟩) hd ?_
  change wpAnyH _ _ _ _ _ _ _ (Act.put _ (some 23) (.int .i64 (48 + (n : Int) % 10))) _
  simp only [Act.put, List.setIfInBounds_toArray, List.set_cons_zero, List.set_cons_succ]
  refine wpAnyH_take (i := 6) (v := .int .u8 (48 + (n : Int) % 10)) rfl (by kernel_rfl) (by kernel_rfl) (by kernel_rfl) (fun _ _ _ h => h) (Or.inl ⟨by kernel_rfl, fun w hS => by go_simp⟩) hd ?_
  change wpAnyH _ _ _ _ _ _ _ (Act.put _ (some 24) (.int .u8 (48 + (n : Int) % 10))) _
  simp only [Act.put, List.setIfInBounds_toArray, List.set_cons_zero, List.set_cons_succ]
  refine wpAnyH_ready (rs := [2, 7]) (by kernel_rfl) (by simp) ?_
  refine AllReadyH.cons rfl (fun K hK => ?_) (AllReadyH.cons rfl (fun K hK => ?_) AllReadyH.nil)
  · go_simp
    go_at_call 38
    refine (IH.out _).mono ?_
    rintro e w2 ⟨rfl, b2⟩
    refine hK.out _ _ trivial (fun _ => ?_)
    refine wpAnyH_ready (rs := [7]) (by kernel_rfl) (by simp) ?_
    refine AllReadyH.cons rfl (fun K hK => ?_) AllReadyH.nil
    go_simp
    refine hK.out _ _ trivial (fun _ => ?_)
    refine wpAnyH_ready (rs := [8]) (by kernel_rfl) (by simp) ?_
    refine AllReadyH.cons rfl (fun K hK => ?_) AllReadyH.nil
    go_simp
    rw [HC.out]
    go_simp
    refine hK.out _ _ trivial (fun _ => ?_)
    refine wpAnyH_take (i := 9) (v := .string R) rfl (by kernel_rfl) (by kernel_rfl) (by kernel_rfl) (fun _ _ _ h => h) (Or.inl ⟨by kernel_rfl, fun w hS => by go_simp⟩) trivial ?_
    change wpAnyH _ _ _ _ _ _ _ (Act.put _ (some 27) (.string R)) _
    simp only [Act.put, List.setIfInBounds_toArray, List.set_cons_zero, List.set_cons_succ]
    refine wpAnyH_take (i := 10) (v := .string R) rfl (by kernel_rfl) (by kernel_rfl) (by kernel_rfl) (fun _ _ _ h => h) (Or.inl ⟨by kernel_rfl, fun w _ => by kernel_rfl⟩) trivial ?_
    change wpAnyH _ _ _ _ _ _ _ (Act.put _ (some 2) (.string R)) _
    simp only [Act.put, List.setIfInBounds_toArray, List.set_cons_zero, List.set_cons_succ]
    refine wpAnyH_done (by kernel_rfl) ?_ _
    go_wp2_with fail
    go_ret
    exact ⟨rfl, ((Below.refl w.heap.size w).drew.trans b2).alloc (by have := b2.size; exact this) _⟩
  · go_simp
    refine hK.out _ _ trivial (fun _ => ?_)
    refine wpAnyH_ready (rs := [2, 8]) (by kernel_rfl) (by simp) ?_
    refine AllReadyH.cons rfl (fun K hK => ?_) (AllReadyH.cons rfl (fun K hK => ?_) AllReadyH.nil)
    · go_simp
      go_at_call 38
      refine (IH.out _).mono ?_
      rintro e w2 ⟨rfl, b2⟩
      refine hK.out _ _ trivial (fun _ => ?_)
      refine wpAnyH_ready (rs := [8]) (by kernel_rfl) (by simp) ?_
      refine AllReadyH.cons rfl (fun K hK => ?_) AllReadyH.nil
      go_simp
      rw [HA.out _ _ ((b2.cell (p := ⟨w.heap.size, 0, none⟩) (by simp)).trans (World.cell?_alloc_mark w.drew _ _ _ 0))]
      go_simp
      refine hK.out _ _ trivial (fun _ => ?_)
      refine wpAnyH_take (i := 9) (v := .string R) rfl (by kernel_rfl) (by kernel_rfl) (by kernel_rfl) (fun _ _ _ h => h) (Or.inl ⟨by kernel_rfl, fun w hS => by go_simp⟩) trivial ?_
      change wpAnyH _ _ _ _ _ _ _ (Act.put _ (some 27) (.string R)) _
      simp only [Act.put, List.setIfInBounds_toArray, List.set_cons_zero, List.set_cons_succ]
      refine wpAnyH_take (i := 10) (v := .string R) rfl (by kernel_rfl) (by kernel_rfl) (by kernel_rfl) (fun _ _ _ h => h) (Or.inl ⟨by kernel_rfl, fun w _ => by kernel_rfl⟩) trivial ?_
      change wpAnyH _ _ _ _ _ _ _ (Act.put _ (some 2) (.string R)) _
      simp only [Act.put, List.setIfInBounds_toArray, List.set_cons_zero, List.set_cons_succ]
      refine wpAnyH_done (by kernel_rfl) ?_ _
      go_wp2_with fail
      go_ret
      exact ⟨rfl, ((Below.refl w.heap.size w).drew.alloc (Nat.le_refl _) _).trans (b2.mono (by simp))⟩
    · go_simp
      rw [HA.out _ w.heap.size (show (w.alloc (.cells #[.int .u8 (48 + (n : Int) % 10)] 5)).drew.cell? ⟨w.heap.size, 0, none⟩ = some (.int .u8 (48 + (n : Int) % 10)) from World.cell?_alloc_mark w _ _ _ 0)]
      go_simp
      refine hK.out _ _ trivial (fun _ => ?_)
      refine wpAnyH_ready (rs := [2]) (by kernel_rfl) (by simp) ?_
      refine AllReadyH.cons rfl (fun K hK => ?_) AllReadyH.nil
      go_simp
      go_at_call 38
      refine (IH.out _).mono ?_
      rintro e w2 ⟨rfl, b2⟩
      refine hK.out _ _ trivial (fun _ => ?_)
      refine wpAnyH_take (i := 9) (v := .string R) rfl (by kernel_rfl) (by kernel_rfl) (by kernel_rfl) (fun _ _ _ h => h) (Or.inl ⟨by kernel_rfl, fun w hS => by go_simp⟩) trivial ?_
      change wpAnyH _ _ _ _ _ _ _ (Act.put _ (some 27) (.string R)) _
      simp only [Act.put, List.setIfInBounds_toArray, List.set_cons_zero, List.set_cons_succ]
      refine wpAnyH_take (i := 10) (v := .string R) rfl (by kernel_rfl) (by kernel_rfl) (by kernel_rfl) (fun _ _ _ h => h) (Or.inl ⟨by kernel_rfl, fun w _ => by kernel_rfl⟩) trivial ?_
      change wpAnyH _ _ _ _ _ _ _ (Act.put _ (some 2) (.string R)) _
      simp only [Act.put, List.setIfInBounds_toArray, List.set_cons_zero, List.set_cons_succ]
      refine wpAnyH_done (by kernel_rfl) ?_ _
      go_wp2_with fail
      go_ret
      exact ⟨rfl, ((Below.refl w.heap.size w).drew.alloc (Nat.le_refl _) _).trans (b2.mono (by simp))⟩
theorem l6Dec_calls : ∀ (f n : Nat), n < 10 ^ (f + 1) → f ≤ 16 → ∀ w, Calls Tryz.prog 38 #[.int .i64 (n : Int)] w fun e w' => e = .returned (.string (decB (n : Int))) ∧ Below w.heap.size w w'
  | 0, n, hn, _, w => l6Dec_small n (by omega) w
  | f + 1, n, hn, hf, w => by
    by_cases h : n < 10
    · exact l6Dec_small n h w
    · have hn2 : n / 10 < 10 ^ (f + 1) := by rw [Nat.pow_succ] at hn; omega
      have h18 : n < 10 ^ 18 := Nat.lt_of_lt_of_le hn (Nat.pow_le_pow_right (by decide) (by omega))
      have hl := decN_len f (n / 10) hn2
      exact l6Dec_big n h (by have : (10 : Nat) ^ 18 = 1000000000000000000 := by decide
                              omega) (fun W => l6Dec_calls f (n / 10) hn2 (by omega) W) (by unfold decB; rw [Int.toNat_natCast]; show ((decN (n / 10)).toArray).size ≤ 1000; simp; omega) w
end Go.Proofs.YtcfhfllcdliaoaaGreatDoor
/- The model's lists as texts: l10Said. -/
namespace Go.Proofs.YtcfhfllcdliaoaaGreatDoor
open Go.RowKit
set_option linter.unusedVariables false
set_option linter.unusedSimpArgs false

theorem saidTo_len (L : List Int) (hv : ∀ j, 0 ≤ L.getD j 0 ∧ L.getD j 0 < 1000000000) : ∀ k, (saidTo L k).length ≤ 12 * k
  | 0 => by simp [saidTo]
  | k + 1 => by
    have h1 := saidTo_len L hv k
    have h2 := decN_len 8 (L.getD k 0).toNat (by have := hv k; omega)
    unfold saidTo
    split <;> simp only [List.length_append, List.length_cons, List.length_nil] <;> omega
theorem add_lists {P : Program} (a b : List UInt8) (h : a.length + b.length ≤ 100000) (W : World) : (Op.stringOp .add (⟨a.toArray⟩ : ByteArray) (⟨b.toArray⟩ : ByteArray)).run P W = .ok (.string ⟨(a ++ b).toArray⟩) W := by
  rw [run_string_add_sum W _ _ (by simp [ByteArray.size]; omega)]
  exact congrArg (fun s => Result.ok (Value.string s) W) (ByteArray.mk_append_mk a b)
set_option maxHeartbeats 2000000 in
theorem l10Said_calls (A : Option Addr) (c : Nat) (xs : List Int) (b : Bool) (w : World) (ha : Rds w w.heap.size .i64 A xs) (hx : xs.length ≤ 64) (hv : ∀ j, 0 ≤ xs.getD j 0 ∧ xs.getD j 0 < 1000000000) :
    Calls Tryz.prog 97 #[.slice A xs.length c, .bool b] w fun e w' => e = .returned (.string (saidS (xs, b))) ∧ Below w.heap.size w w' := by
  rcases b with _ | _
  · go_enter Tryz.func97, Tryz.ntmps97
    go_wp2_with fail
    go_ret
    exact ⟨rfl, Below.refl _ _⟩
  · have HS := Lib.hid (show saidS (xs, true) = ⟨(saidTo xs xs.length ++ [10]).toArray⟩ from rfl)
    have HL := Lib.hid (saidTo_len xs hv)
    have HV := Lib.hid hv
    have HA := Lib.hid ha
    clear hv ha
    generalize saidS (xs, true) = R at *
    go_enter Tryz.func97, Tryz.ntmps97
    go_wp2_with fail
    go_loopw [5, 6] (fun o i wr => ∃ k : Nat, k ≤ xs.length ∧ i = .int .i64 (k : Int) ∧ o = .string ⟨(saidTo xs k).toArray⟩ ∧ Hid (Below w.heap.size w wr)) (fun _ i _ => xs.length - (intOf i).toNat)
    case atStart => exact ⟨0, by omega, rfl, rfl, Lib.hid (Below.refl _ _)⟩
    case round =>
      obtain ⟨k, hk, rfl, rfl, hb⟩ := hrel
      by_cases hlt : k < xs.length
      · obtain ⟨bb, o, hA, hb1, hc⟩ := (HA.out.below hb.out).at_ (j := k) hlt
        subst hA
        have hk1 : (k : Int) < (xs.length : Int) := by omega
        have hk0 : (0 : Int) ≤ (k : Int) := by omega
        have hv := HV.out k
        have hl := HL.out k
        have hd := decN_len 8 (xs.getD k 0).toNat (by omega)
        have hs : saidTo xs (k + 1) = (if 0 < k then saidTo xs k ++ [32] else saidTo xs k) ++ decN (xs.getD k 0).toNat := rfl
        obtain ⟨x, hx0⟩ := Int.eq_ofNat_of_zero_le hv.1
        rw [hx0] at hc hs hd hv
        rw [Int.toNat_natCast] at hs hd
        have IH := Lib.hid (fun W => l6Dec_calls 8 x (by omega) (by omega) W)
        have hdec : decB (x : Int) = ⟨(decN x).toArray⟩ := by unfold decB; rw [Int.toNat_natCast]
        rw [hdec] at IH
        by_cases h0 : 0 < k
        · rw [if_pos h0] at hs
          have hk2 : (0 : Int) < (k : Int) := by omega
          have hadd1 : ∀ W, (Op.stringOp .add (⟨(saidTo xs k).toArray⟩ : ByteArray) ⟨#[32]⟩).run Tryz.prog W = .ok (.string ⟨(saidTo xs k ++ [32]).toArray⟩) W := fun W => add_lists (saidTo xs k) [32] (by simp; omega) W
          have hadd2 : ∀ W, (Op.stringOp .add (⟨(saidTo xs k ++ [32]).toArray⟩ : ByteArray) (⟨(decN x).toArray⟩ : ByteArray)).run Tryz.prog W = .ok (.string ⟨(saidTo xs (k + 1)).toArray⟩) W := fun W => by rw [add_lists _ _ (by simp; omega), hs]
          clear hs hl hd hv hdec hx0
          generalize (⟨(saidTo xs k ++ [32]).toArray⟩ : ByteArray) = T1 at *
          generalize (⟨(saidTo xs k).toArray⟩ : ByteArray) = T0 at *
          generalize (⟨(decN x).toArray⟩ : ByteArray) = D at *
          go_wp2_with fail
          refine (IH.out _).mono ?_
          rintro e w2 ⟨rfl, b2⟩
          go_wp2_with fail
          go_roundw
          case rel => exact ⟨k + 1, by omega, by go_num, by first | rfl | assumption, Lib.hid (hb.out.trans (b2.mono hb.out.size))⟩
          case measure => simp [intOf]; omega
        · rw [if_neg h0] at hs
          have hk2 : ¬ (0 : Int) < (k : Int) := by omega
          have hadd2 : ∀ W, (Op.stringOp .add (⟨(saidTo xs k).toArray⟩ : ByteArray) (⟨(decN x).toArray⟩ : ByteArray)).run Tryz.prog W = .ok (.string ⟨(saidTo xs (k + 1)).toArray⟩) W := fun W => by rw [add_lists _ _ (by omega), hs]
          clear hs hl hd hv hdec hx0
          generalize (⟨(decN x).toArray⟩ : ByteArray) = D at *
          go_wp2_with fail
          refine (IH.out _).mono ?_
          rintro e w2 ⟨rfl, b2⟩
          go_wp2_with fail
          go_roundw
          case rel => exact ⟨k + 1, by omega, by go_num, by first | rfl | assumption, Lib.hid (hb.out.trans (b2.mono hb.out.size))⟩
          case measure => simp [intOf]; omega
      · obtain rfl : k = xs.length := by omega
        have hl := HL.out xs.length
        have hadd1 : ∀ W, (Op.stringOp .add (⟨(saidTo xs xs.length).toArray⟩ : ByteArray) ⟨#[10]⟩).run Tryz.prog W = .ok (.string R) W := fun W => by rw [HS.out]; exact add_lists _ [10] (by simp; omega) W
        clear hl
        go_wp2_with fail
        go_ret
        exact ⟨rfl, hb.out⟩
end Go.Proofs.YtcfhfllcdliaoaaGreatDoor