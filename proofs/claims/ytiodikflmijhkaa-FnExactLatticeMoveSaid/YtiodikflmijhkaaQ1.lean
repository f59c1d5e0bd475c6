import Derived.Test.YtiodikflmijhkaaChecked
import Derived.WalkKit
import Derived.Handy
import Derived.WalkLawsBesides
import Derived.WalkSpells
import Derived.Deep.QuietTactic
import Derived.BigQuiet
import Derived.Lib.Tables
import Derived.Outline
import Derived.Lib.Hide
import Derived.Test.YtiodikflmijhkaaP1
import Derived.Test.YtiodikflmijhkaaP0
/- Contracts of the small functions of chapter 1 (words): what each returns; the world is as it was, or has drawn. -/
namespace Go.Proofs.Ytiodikflmijhkaa
open Go.RowKit
set_option linter.unusedVariables false

theorem ret_i {k : IntKind} {a b : Int} (h : a = b) : Ending.returned (.int k a) = .returned (.int k b) := by rw [h]
theorem ret_b {a b : Bool} (h : a = b) : Ending.returned (.bool a) = .returned (.bool b) := by rw [h]

theorem placeValid_ok (n : Int) (w : World) (h0 : 0 ≤ n) (h1 : n ≤ 23) :
    Calls Try.prog 45 #[.int .i64 n] w fun e w' => e = .returned (.bool true) ∧ w = w' := by
  go_enter Try.func45, Try.ntmps45
  go_wp2
  go_ret
  exact ⟨ret_b (by first | (simp; done) | (simp; omega)), rfl⟩
theorem placeValid_no (n : Int) (w : World) (h : n < 0 ∨ 23 < n) :
    Calls Try.prog 45 #[.int .i64 n] w fun e w' => e = .returned (.bool false) ∧ w = w' := by
  rcases h with h | h
  · go_enter Try.func45, Try.ntmps45
    go_wp2
    go_ret
    exact ⟨ret_b (by first | (simp; done) | (simp; omega)), rfl⟩
  · have h' : 0 ≤ n := by omega
    go_enter Try.func45, Try.ntmps45
    go_wp2
    go_ret
    exact ⟨ret_b (by first | (simp; done) | (simp; omega)), rfl⟩
theorem placeAt_calls (r c : Int) (w : World) (h0 : 0 ≤ r) (h1 : r ≤ 3) (h2 : 0 ≤ c) (h3 : c ≤ 5) :
    Calls Try.prog 39 #[.int .i64 r, .int .i64 c] w fun e w' => e = .returned (.int .i64 (c * 4 + r)) ∧ w = w' := by
  go_enter Try.func39, Try.ntmps39
  go_wp2
  go_ret
  exact ⟨rfl, rfl⟩
theorem wordAt_calls (i : Int) (w : World) (h0 : 0 ≤ i) (h1 : i ≤ 23) :
    Calls Try.prog 48 #[.int .i64 i] w fun e w' => e = .returned (.int .u32 (powI i)) ∧ w = w' := by
  have hp := powI_pos i
  have hq := powI_le i h0 h1
  have hf : 2 ^ i.toNat % 4294967296 = powI i := by show powI i % 4294967296 = powI i; omega
  have HF := Lib.hid hf
  clear hf hp hq
  go_enter Try.func48, Try.ntmps48
  go_wp2
  go_ret
  exact ⟨ret_i HF.out, rfl⟩
theorem word_add (a b : Int) (w : World) (h0 : 0 ≤ a) (h1 : a ≤ 16777215) (h2 : 0 ≤ b) (h3 : b ≤ 16777215) :
    Calls Try.prog 47 #[.int .u32 a, .int .u32 b] w fun e w' => e = .returned (.int .u32 (xorI a b)) ∧ w = w' := by
  have HF := Lib.hid (xor_u32 a b h0 (by omega) h2 (by omega))
  go_enter Try.func47, Try.ntmps47
  go_wp2
  go_ret
  exact ⟨ret_i HF.out, rfl⟩
theorem word_has (a i : Int) (w : World) (h0 : 0 ≤ a) (h1 : a ≤ 16777215) (h2 : 0 ≤ i) (h3 : i ≤ 23) :
    Calls Try.prog 46 #[.int .u32 a, .int .i64 i] w fun e w' => e = .returned (.bool (bitI a i == 1)) ∧ w = w' := by
  have hp := powI_pos i
  have hq := powI_le i h2 h3
  have hf : (!(bits .and .u32 a (powI i) == 0)) = (bitI a i == 1) := by
    rw [and_u32 a (powI i) h0 (by omega) (by omega) (by omega), and_pow a i h0 h2]
    rcases bitI_01 a i with h | h <;> rw [h] <;> simp
    omega
  have hf' : (bits .and .u32 a (powI i) != 0) = (bitI a i == 1) := hf
  have HF := Lib.hid hf
  have HG := Lib.hid hf'
  clear hf hf' hp hq
  go_enter Try.func46, Try.ntmps46
  go_wp2_with (go_at_call 48; refine (wordAt_calls _ _ (by omega) (by omega)).mono ?_; rintro e w' ⟨rfl, rfl⟩)
  go_ret
  first | exact ⟨ret_b HF.out, rfl⟩ | exact ⟨ret_b HG.out, rfl⟩
theorem l6In_ok (n l h : Int) (w : World) (h0 : l ≤ n) (h1 : n ≤ h) :
    Calls Try.prog 16 #[.int .i64 n, .int .i64 l, .int .i64 h] w fun e w' => e = .returned (.bool true) ∧ w = w' := by
  go_enter Try.func16, Try.ntmps16
  go_wp2
  go_ret
  exact ⟨ret_b (by first | rfl | (simp; done) | (simp; omega)), rfl⟩
theorem l6In_no (n l h : Int) (w : World) (h0 : n < l ∨ h < n) :
    Calls Try.prog 16 #[.int .i64 n, .int .i64 l, .int .i64 h] w fun e w' => e = .returned (.bool false) ∧ w = w' := by
  by_cases h1 : n < l
  · go_enter Try.func16, Try.ntmps16
    go_wp2
    go_ret
    exact ⟨ret_b (by first | rfl | (simp; done) | (simp; omega)), rfl⟩
  · have h2 : l ≤ n := by omega
    have h3 : h < n := by omega
    go_enter Try.func16, Try.ntmps16
    go_wp2
    go_ret
    exact ⟨ret_b (by first | rfl | (simp; done) | (simp; omega)), rfl⟩
theorem l1Bit_calls (n i : Int) (w : World) (h0 : 0 ≤ i) (h1 : i ≤ 63) :
    Calls Try.prog 17 #[.int .i64 n, .int .i64 i] w fun e w' => e = .returned (.int .i64 (bitI n i)) ∧ w = w' := by
  have HF := Lib.hid (show bits .and .i64 (n / 2 ^ i.toNat) 1 = bitI n i from and1_i64 _)
  go_enter Try.func17, Try.ntmps17
  go_wp2
  go_ret
  exact ⟨ret_i HF.out, rfl⟩
end Go.Proofs.Ytiodikflmijhkaa
/- Contracts of the exported functions of chapter 1 on plain numbers, of the program and of its model. -/
namespace Go.Proofs.Ytiodikflmijhkaa
open Go.RowKit
set_option linter.unusedVariables false

/-- A number is a word. -/
def IsW (n : Int) : Prop := 0 ≤ n ∧ n ≤ 16777215
def NoW (n : Int) : Prop := n < 0 ∨ 16777215 < n
theorem isW_or (n : Int) : IsW n ∨ NoW n := by unfold IsW NoW; omega

end Go.Proofs.Ytiodikflmijhkaa
/- Contracts of the laws' own helpers on lists of ints, and of WordOf. -/
namespace Go.Proofs.Ytiodikflmijhkaa
open Go.RowKit
set_option linter.unusedVariables false

theorem intInfo : (Try.prog.info? 3).map (fun i => (i.zero, i.size, i.bytes)) = some (some (.int .i64 0), 1, 8) := by kernel_rfl
def eqL (xs ys : List Int) : Bool := decide (xs = ys)
theorem eqL_refl (xs : List Int) : eqL xs xs = true := by simp [eqL]

theorem take_succ_getD (xs : List Int) (k : Nat) (h : k < xs.length) : xs.take (k + 1) = xs.take k ++ [xs.getD k 0] := by
  rw [List.take_succ_eq_append_getElem h]; simp [List.getElem?_eq_getElem h]
theorem eqL_step (xs ys : List Int) (k : Nat) (h : k < xs.length) (hl : xs.length = ys.length) (he : xs.getD k 0 = ys.getD k 0) (ht : xs.take k = ys.take k) : xs.take (k + 1) = ys.take (k + 1) := by
  rw [take_succ_getD xs k h, take_succ_getD ys k (by omega), he, ht]
theorem eqL_no (xs ys : List Int) (k : Nat) (he : xs.getD k 0 ≠ ys.getD k 0) : eqL xs ys = false := by
  simp only [eqL, decide_eq_false_iff_not]
  rintro rfl
  exact he rfl
theorem eqL_len (xs ys : List Int) (he : xs.length ≠ ys.length) : eqL xs ys = false := by
  simp only [eqL, decide_eq_false_iff_not]
  rintro rfl
  exact he rfl
theorem eqL_yes (xs ys : List Int) (k : Nat) (hl : xs.length = ys.length) (h : xs.length ≤ k) (ht : xs.take k = ys.take k) : eqL xs ys = true := by
  rw [List.take_of_length_le h, List.take_of_length_le (by omega)] at ht
  rw [ht, eqL_refl]

set_option maxHeartbeats 400000 in
theorem eqIntS_calls (A B : Option Addr) (c d : Nat) (xs ys : List Int) (w : World) (ha : Rds w w.heap.size .i64 A xs) (hb : Rds w w.heap.size .i64 B ys) (hx : xs.length ≤ maxLen) (hy : ys.length ≤ maxLen) :
    Calls Try.prog 7 #[.slice A xs.length c, .slice B ys.length d] w fun e w' => e = .returned (.bool (eqL xs ys)) ∧ ∃ k, w' = w.drewN k := by
  unfold maxLen at hx hy
  by_cases hl : xs.length = ys.length
  · have HL := Lib.hid hl
    have hl1 : ((xs.length : Int) != (ys.length : Int)) = false := by simp [hl]
    have hl2 : ((xs.length : Int) == (ys.length : Int)) = true := by simp [hl]
    clear hl
    go_enter Try.func7, Try.ntmps7
    go_wp2
    go_loopw [5] (fun i wr => ∃ k : Nat, k ≤ xs.length ∧ i = .int .i64 k ∧ Hid (xs.take k = ys.take k) ∧ ∃ m, wr = w.drewN m) (fun i _ => xs.length - (intOf i).toNat)
    case atStart => exact ⟨0, Nat.zero_le _, rfl, Lib.hid (by simp), 0, rfl⟩
    case round =>
      obtain ⟨k, hk, rfl, ht, m, rfl⟩ := hrel
      by_cases hlt : k < xs.length
      · obtain ⟨b1, o1, rfl, _, c1⟩ := ha.at_ hlt
        obtain ⟨b2, o2, rfl, _, c2⟩ := hb.at_ (j := k) (by have := HL.out; omega)
        have hky : k < ys.length := by have := HL.out; omega
        by_cases he : xs.getD k 0 = ys.getD k 0
        · have HT := Lib.hid (eqL_step xs ys k hlt HL.out he ht.out)
          have e1 : (xs.getD k 0 != ys.getD k 0) = false := by rw [he]; simp
          clear ht
          generalize xs.getD k 0 = x at *
          generalize ys.getD k 0 = y at *
          clear he
          go_wp2
          go_quiet (fail)
          go_wp2
          go_roundw
          case rel => exact ⟨k + 1, by omega, by go_num, HT, _, rfl⟩
          case measure => simp [intOf]; omega
        · have HT := Lib.hid (eqL_no xs ys k he)
          have e1 : (xs.getD k 0 != ys.getD k 0) = true := by simpa using he
          clear ht
          generalize xs.getD k 0 = x at *
          generalize ys.getD k 0 = y at *
          clear he
          go_wp2
          go_quiet (fail)
          go_wp2
          go_ret
          exact ⟨ret_b HT.out.symm, _, World.drewN_drewN _ _ _⟩
      · go_wp2
        go_ret
        exact ⟨ret_b (eqL_yes xs ys k HL.out (by omega) ht.out).symm, m, rfl⟩
  · have HN := Lib.hid (eqL_len xs ys hl)
    have hl1 : ((xs.length : Int) != (ys.length : Int)) = true := by simpa using fun e => hl (by omega)
    clear hl
    go_enter Try.func7, Try.ntmps7
    go_wp2
    go_ret
    exact ⟨ret_b HN.out.symm, 0, rfl⟩


theorem fillStep (xs : List Int) (k : Nat) (h : k < xs.length) : (xs.take k ++ List.replicate (xs.length - k) 0).set k (xs.getD k 0) = xs.take (k + 1) ++ List.replicate (xs.length - (k + 1)) 0 := by
  rw [take_succ_getD xs k h, List.set_append_right _ _ (by simp; omega), List.length_take, Nat.min_eq_left (by omega), Nat.sub_self,
    show xs.length - k = (xs.length - (k + 1)) + 1 by omega, List.replicate_succ]
  simp
set_option maxHeartbeats 400000 in
/-- A copy of a list in a new row. -/
theorem toIntS_calls (A : Option Addr) (c : Nat) (xs : List Int) (w : World) (ha : Rds w w.heap.size .i64 A xs) (hx : xs.length ≤ 1048576) :
    Calls Try.prog 5 #[.slice A xs.length c] w fun e w' => ∃ v, e = .returned v ∧ Own w' w.heap.size v xs ∧ Below w.heap.size w w' := by
  obtain ⟨i0, hi, hz0, hz1, hz2⟩ := info_parts intInfo
  go_enter Try.func5, Try.ntmps5
  go_wp2_with (at_make; refine wpList_make_full _ rfl _ _ 22 rfl w.heap.size 3 i0 (.int .i64 0) 1 Try.underlying22 hi hz0 hz1 _ _ _ _ xs.length rfl rfl rfl rfl (by rw [hz2]; omega) (by unfold maxLen; omega) (Nat.le_refl _) ?_; intro w1 hown hgrow)
  have hown' : Own w1 w.heap.size (.slice (some ⟨w.heap.size, 0, none⟩) xs.length xs.length) (List.replicate xs.length 0) := by
    rw [madeCells_int] at hown
    unfold Own
    simpa using hown
  have hb1 : Below w.heap.size w w1 := (Below.refl _ _).grown hgrow (Nat.le_refl _) (by simp)
  have ha1 : Rds w1 w.heap.size .i64 A xs := ha.below hb1
  have HZ := Lib.hid hz2
  have HB := Lib.hid hb1
  have HA := Lib.hid ha1
  have HO := Lib.hid hown'
  clear hown hgrow hi hz0 hz1 hz2 hb1 ha1 hown'
  go_loopw [4] (fun i wr => ∃ k : Nat, k ≤ xs.length ∧ i = .int .i64 k ∧ Hid (Own wr w.heap.size (.slice (some ⟨w.heap.size, 0, none⟩) xs.length xs.length) (xs.take k ++ List.replicate (xs.length - k) 0)) ∧ Hid (Below w.heap.size w wr)) (fun i _ => xs.length - (intOf i).toNat)
  case atStart => exact ⟨0, Nat.zero_le _, rfl, Lib.hid (by simpa using HO.out), HB⟩
  case round =>
    obtain ⟨k, hk, rfl, ho, hb⟩ := hrel
    by_cases hlt : k < xs.length
    · obtain ⟨b1, o1, rfl, hlt1, c1⟩ := (ha.below hb.out).at_ hlt
      have c2 := ho.out.cell (j := k) (by simp; omega)
      have f2 := ho.out.free k
      have HS := Lib.hid (ho.out.set k (xs.getD k 0))
      rw [fillStep xs k hlt] at HS
      have HB' := Lib.hid (hb.out.setCell (p := ⟨w.heap.size, k, none⟩) (Nat.le_refl _) (.int .i64 (xs.getD k 0)))
      clear ho hb
      generalize xs.getD k 0 = x at *
      go_wp2
      go_roundw
      case rel => exact ⟨k + 1, by omega, by go_num, HS, HB'⟩
      case measure => simp [intOf]; omega
    · have HS : Own wr w.heap.size (.slice (some ⟨w.heap.size, 0, none⟩) xs.length xs.length) xs := by
        have := ho.out
        rwa [show xs.length - k = 0 by omega, List.replicate_zero, List.append_nil, List.take_of_length_le (by omega)] at this
      have HS' := Lib.hid HS
      clear HS ho
      go_wp2
      go_ret
      exact ⟨_, rfl, HS'.out, hb.out⟩

/-- The word of a list of places: one place more, or none. -/
def addPl : Option Int → Int → Option Int
  | some t, p => if 0 ≤ p ∧ p ≤ 23 ∧ bitI t p = 0 then some (t + powI p) else none
  | none, _ => none
def wof (xs : List Int) : Option Int := xs.foldl addPl (some 0)
def resW : Option Int → Value
  | some t => .tuple #[.int .i64 t, .bool true]
  | none => .tuple #[.int .i64 0, .bool false]
theorem wof_succ (xs : List Int) (k : Nat) (h : k < xs.length) : wof (xs.take (k + 1)) = addPl (wof (xs.take k)) (xs.getD k 0) := by
  unfold wof
  rw [take_succ_getD xs k h, List.foldl_append]; rfl
theorem foldl_none (xs : List Int) : xs.foldl addPl none = none := by
  induction xs with
  | nil => rfl
  | cons x xs ih => simpa [List.foldl, addPl] using ih
theorem wof_none (xs : List Int) (k : Nat) (h : wof (xs.take k) = none) : wof xs = none := by
  unfold wof at *
  rw [← List.take_append_drop k xs, List.foldl_append, h, foldl_none]
theorem nat_xor_add (T q : Nat) (h : T &&& q = 0) : T ^^^ q = T + q := by
  have hb : T + q < 2 ^ (T + q) := Nat.lt_two_pow_self
  have e := BitVec.add_eq_or_of_and_eq_zero (BitVec.ofNat (T + q) T) (BitVec.ofNat (T + q) q) (by
    apply BitVec.eq_of_toNat_eq
    rw [BitVec.toNat_and, BitVec.toNat_ofNat, BitVec.toNat_ofNat, Nat.mod_eq_of_lt (by omega), Nat.mod_eq_of_lt (by omega), h]
    simp)
  have e2 := congrArg BitVec.toNat e
  rw [BitVec.toNat_add, BitVec.toNat_or, BitVec.toNat_ofNat, BitVec.toNat_ofNat, Nat.mod_eq_of_lt (show T < 2 ^ (T + q) by omega), Nat.mod_eq_of_lt (show q < 2 ^ (T + q) by omega), Nat.mod_eq_of_lt hb] at e2
  rw [e2]
  apply Nat.eq_of_testBit_eq
  intro i
  rw [Nat.testBit_xor, Nat.testBit_or]
  have := congrArg (fun n => n.testBit i) h
  simp only [Nat.testBit_and, Nat.zero_testBit] at this
  revert this
  cases T.testBit i <;> cases q.testBit i <;> simp
theorem xor_pow (t p : Int) (h0 : 0 ≤ t) (h2 : 0 ≤ p) (hb : bitI t p = 0) : xorI t (powI p) = t + powI p := by
  have hm := and_pow t p h0 h2
  rw [hb, Int.zero_mul] at hm
  obtain ⟨T, rfl⟩ := Int.eq_ofNat_of_zero_le h0
  have hp := powI_pos p
  obtain ⟨q, hq⟩ := Int.eq_ofNat_of_zero_le (show 0 ≤ powI p by omega)
  rw [hq] at hm ⊢
  unfold andI at hm
  unfold xorI
  rw [Int.toNat_natCast, Int.toNat_natCast] at hm
  rw [Int.toNat_natCast, Int.toNat_natCast, nat_xor_add T q (by omega)]
  omega
theorem pow_val (p : Int) (h0 : 0 ≤ p) (h1 : p ≤ 23) : powI p < 16777216 ∧ 0 < powI p := ⟨by have := powI_le p h0 h1; omega, powI_pos p⟩
theorem wrap_pow (t p : Int) (h0 : 0 ≤ t + powI p) (h1 : t + powI p ≤ 16777215) (h2 : powI p < 16777216) (h3 : 0 < powI p) : wrap64 (t + wrap64 (2 ^ p.toNat)) = t + powI p := by
  have a : wrap64 (powI p) = powI p := IntWalk.wrap64_in _ (by omega)
  show wrap64 (t + wrap64 (powI p)) = t + powI p
  rw [a]
  exact IntWalk.wrap64_in _ (by omega)
theorem addPl_range (t p : Int) (h0 : 0 ≤ t) (h1 : t ≤ 16777215) (hp0 : 0 ≤ p) (hp1 : p ≤ 23) (hb : bitI t p = 0) : 0 ≤ t + powI p ∧ t + powI p ≤ 16777215 := by
  have a := xor_pow t p h0 hp0 hb
  have b := xorI_le t (powI p) h1 (by have := powI_le p hp0 hp1; omega)
  have c := powI_pos p
  omega

set_option maxHeartbeats 400000 in
theorem iWordOf_calls (A : Option Addr) (c : Nat) (xs : List Int) (w : World) (ha : Rds w w.heap.size .i64 A xs) (hx : xs.length ≤ maxLen) :
    Calls Try.prog 25 #[.slice A xs.length c] w fun e w' => e = .returned (resW (wof xs)) ∧ w = w' := by
  unfold maxLen at hx
  go_enter Try.func25, Try.ntmps25
  go_wp2
  go_loop [4, 9] (fun t i => ∃ (k : Nat) (T : Int), k ≤ xs.length ∧ i = .int .i64 k ∧ t = .int .u32 T ∧ 0 ≤ T ∧ T ≤ 16777215 ∧ Hid (wof (xs.take k) = some T)) (fun _ i => xs.length - (intOf i).toNat)
  case atStart => exact ⟨0, 0, Nat.zero_le _, rfl, rfl, by omega, by omega, Lib.hid rfl⟩
  case round =>
    obtain ⟨k, T, hk, rfl, rfl, hT0, hT1, ht⟩ := hrel
    by_cases hlt : k < xs.length
    · obtain ⟨b1, o1, rfl, _, c1⟩ := ha.at_ hlt
      have hs := wof_succ xs k hlt
      rw [ht.out] at hs
      generalize xs.getD k 0 = p at *
      by_cases hp : 0 ≤ p ∧ p ≤ 23
      · obtain ⟨hp0, hp1⟩ := hp
        by_cases hb : bitI T p = 0
        · have hs' : wof (xs.take (k + 1)) = some (T + powI p) := by rw [hs]; simp [addPl, hp0, hp1, hb]
          have hr := addPl_range T p hT0 hT1 hp0 hp1 hb
          have HX := Lib.hid (xor_pow T p hT0 hp0 hb)
          have HS := Lib.hid hs'
          have hq := pow_val p hp0 hp1
          have hbb : (bitI T p == 1) = false := by rw [hb]; rfl
          clear hs hs' ht hb
          go_wp2_with (first
            | (go_at_call 45; refine (placeValid_ok _ _ (by omega) (by omega)).mono ?_; rintro e w' ⟨rfl, rfl⟩)
            | (go_at_call 46; refine (word_has _ _ _ (by omega) (by omega) (by omega) (by omega)).mono ?_; rintro e w' ⟨rfl, rfl⟩)
            | (go_at_call 48; refine (wordAt_calls _ _ (by omega) (by omega)).mono ?_; rintro e w' ⟨rfl, rfl⟩)
            | (go_at_call 47; refine (word_add _ _ _ (by omega) (by omega) (by omega) (by omega)).mono ?_; rintro e w' ⟨rfl, rfl⟩))
          go_round
          case rel => exact ⟨k + 1, T + powI p, by omega, by go_num, by rw [HX.out], hr.1, hr.2, HS⟩
          case measure => simp [intOf]; omega
        · have hs' : wof xs = none := wof_none xs (k + 1) (by rw [hs]; simp [addPl, hb])
          have HS := Lib.hid hs'
          have hbb : (bitI T p == 1) = true := by rcases bitI_01 T p with h | h <;> simp_all
          clear hs hs' ht hb
          go_wp2_with (first
            | (go_at_call 45; refine (placeValid_ok _ _ (by omega) (by omega)).mono ?_; rintro e w' ⟨rfl, rfl⟩)
            | (go_at_call 46; refine (word_has _ _ _ (by omega) (by omega) (by omega) (by omega)).mono ?_; rintro e w' ⟨rfl, rfl⟩))
          go_ret2
          exact ⟨by rw [HS.out]; rfl, rfl⟩
      · have hs' : wof xs = none := wof_none xs (k + 1) (by rw [hs]; simp only [addPl]; rw [if_neg (by omega)])
        have HS := Lib.hid hs'
        have hp' : p < 0 ∨ 23 < p := by omega
        clear hs hs' ht hp
        go_wp2_with (go_at_call 45; refine (placeValid_no _ _ hp').mono ?_; rintro e w' ⟨rfl, rfl⟩)
        go_ret2
        exact ⟨by rw [HS.out]; rfl, rfl⟩
    · have hs' : wof xs = some T := by have := ht.out; rwa [List.take_of_length_le (by omega)] at this
      have HS := Lib.hid hs'
      clear hs' ht
      go_wp2
      go_ret2
      exact ⟨by rw [HS.out]; rfl, rfl⟩
end Go.Proofs.Ytiodikflmijhkaa