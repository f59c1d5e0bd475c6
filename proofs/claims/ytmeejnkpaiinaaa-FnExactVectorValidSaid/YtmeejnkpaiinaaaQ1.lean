import Derived.Test.YtmeejnkpaiinaaaChecked
import Derived.WalkKit
import Derived.Handy
import Derived.WalkLawsBesides
import Derived.WalkSpells
import Derived.Deep.QuietTactic
import Derived.BigQuiet
import Derived.Lib.Tables
import Derived.Outline
import Derived.Lib.Hide
import Derived.Test.YtmeejnkpaiinaaaP1
import Derived.Test.YtmeejnkpaiinaaaP0
/- Contracts of the small functions of chapter 1 (words): what each returns; the world is as it was, or has drawn. -/
namespace Go.Proofs.Ytmeejnkpaiinaaa
open Go.RowKit
set_option linter.unusedVariables false

theorem ret_i {k : IntKind} {a b : Int} (h : a = b) : Ending.returned (.int k a) = .returned (.int k b) := by rw [h]
theorem ret_b {a b : Bool} (h : a = b) : Ending.returned (.bool a) = .returned (.bool b) := by rw [h]

theorem l6In_ok (n l h : Int) (w : World) (h0 : l ≤ n) (h1 : n ≤ h) :
    Calls Try.prog 16 #[.int .i64 n, .int .i64 l, .int .i64 h] w fun e w' => e = .returned (.bool true) ∧ w = w' := by
  go_enter Try.func16, Try.ntmps16
  go_wp2
  go_ret
  exact ⟨ret_b (by first | rfl | (simp; done) | (simp; omega)), rfl⟩
theorem l6In_no (n l h : Int) (w : World) (h0 : n < l ∨ h < n) :
    Calls Try.prog 16 #[.int .i64 n, .int .i64 l, .int .i64 h] w fun e w' => e = .returned (.bool false) ∧ w = w' := by
  by_cases h1 : n < l
  · go_enter Try.func16, Try.ntmps16
    go_wp2
    go_ret
    exact ⟨ret_b (by first | rfl | (simp; done) | (simp; omega)), rfl⟩
  · have h2 : l ≤ n := by omega
    have h3 : h < n := by omega
    go_enter Try.func16, Try.ntmps16
    go_wp2
    go_ret
    exact ⟨ret_b (by first | rfl | (simp; done) | (simp; omega)), rfl⟩
end Go.Proofs.Ytmeejnkpaiinaaa
/- Contracts of the exported functions of chapter 1 on plain numbers, of the program and of its model. -/
namespace Go.Proofs.Ytmeejnkpaiinaaa
open Go.RowKit
set_option linter.unusedVariables false

/-- A number is a word. -/
def IsW (n : Int) : Prop := 0 ≤ n ∧ n ≤ 16777215
def NoW (n : Int) : Prop := n < 0 ∨ 16777215 < n
theorem isW_or (n : Int) : IsW n ∨ NoW n := by unfold IsW NoW; omega

end Go.Proofs.Ytmeejnkpaiinaaa
/- Contracts of the laws' own helpers on lists of ints, and of WordOf. -/
namespace Go.Proofs.Ytmeejnkpaiinaaa
open Go.RowKit
set_option linter.unusedVariables false

theorem intInfo : (Try.prog.info? 3).map (fun i => (i.zero, i.size, i.bytes)) = some (some (.int .i64 0), 1, 8) := by kernel_rfl
def eqL (xs ys : List Int) : Bool := decide (xs = ys)
theorem eqL_refl (xs : List Int) : eqL xs xs = true := by simp [eqL]

theorem take_succ_getD (xs : List Int) (k : Nat) (h : k < xs.length) : xs.take (k + 1) = xs.take k ++ [xs.getD k 0] := by
  rw [List.take_succ_eq_append_getElem h]; simp [List.getElem?_eq_getElem h]
theorem eqL_step (xs ys : List Int) (k : Nat) (h : k < xs.length) (hl : xs.length = ys.length) (he : xs.getD k 0 = ys.getD k 0) (ht : xs.take k = ys.take k) : xs.take (k + 1) = ys.take (k + 1) := by
  rw [take_succ_getD xs k h, take_succ_getD ys k (by omega), he, ht]
theorem eqL_no (xs ys : List Int) (k : Nat) (he : xs.getD k 0 ≠ ys.getD k 0) : eqL xs ys = false := by
  simp only [eqL, decide_eq_false_iff_not]
  rintro rfl
  exact he rfl
theorem eqL_len (xs ys : List Int) (he : xs.length ≠ ys.length) : eqL xs ys = false := by
  simp only [eqL, decide_eq_false_iff_not]
  rintro rfl
  exact he rfl
theorem eqL_yes (xs ys : List Int) (k : Nat) (hl : xs.length = ys.length) (h : xs.length ≤ k) (ht : xs.take k = ys.take k) : eqL xs ys = true := by
  rw [List.take_of_length_le h, List.take_of_length_le (by omega)] at ht
  rw [ht, eqL_refl]

set_option maxHeartbeats 400000 in
theorem eqIntS_calls (A B : Option Addr) (c d : Nat) (xs ys : List Int) (w : World) (ha : Rds w w.heap.size .i64 A xs) (hb : Rds w w.heap.size .i64 B ys) (hx : xs.length ≤ maxLen) (hy : ys.length ≤ maxLen) :
    Calls Try.prog 9 #[.slice A xs.length c, .slice B ys.length d] w fun e w' => e = .returned (.bool (eqL xs ys)) ∧ ∃ k, w' = w.drewN k := by
  unfold maxLen at hx hy
  by_cases hl : xs.length = ys.length
  · have HL := Lib.hid hl
    have hl1 : ((xs.length : Int) != (ys.length : Int)) = false := by simp [hl]
    have hl2 : ((xs.length : Int) == (ys.length : Int)) = true := by simp [hl]
    clear hl
    go_enter Try.func9, Try.ntmps9
    go_wp2
    go_loopw [5] (fun i wr => ∃ k : Nat, k ≤ xs.length ∧ i = .int .i64 k ∧ Hid (xs.take k = ys.take k) ∧ ∃ m, wr = w.drewN m) (fun i _ => xs.length - (intOf i).toNat)
    case atStart => exact ⟨0, Nat.zero_le _, rfl, Lib.hid (by simp), 0, rfl⟩
    case round =>
      obtain ⟨k, hk, rfl, ht, m, rfl⟩ := hrel
      by_cases hlt : k < xs.length
      · obtain ⟨b1, o1, rfl, _, c1⟩ := ha.at_ hlt
        obtain ⟨b2, o2, rfl, _, c2⟩ := hb.at_ (j := k) (by have := HL.out; omega)
        have hky : k < ys.length := by have := HL.out; omega
        by_cases he : xs.getD k 0 = ys.getD k 0
        · have HT := Lib.hid (eqL_step xs ys k hlt HL.out he ht.out)
          have e1 : (xs.getD k 0 != ys.getD k 0) = false := by rw [he]; simp
          clear ht
          generalize xs.getD k 0 = x at *
          generalize ys.getD k 0 = y at *
          clear he
          go_wp2
          go_quiet (fail)
          go_wp2
          go_roundw
          case rel => exact ⟨k + 1, by omega, by go_num, HT, _, rfl⟩
          case measure => simp [intOf]; omega
        · have HT := Lib.hid (eqL_no xs ys k he)
          have e1 : (xs.getD k 0 != ys.getD k 0) = true := by simpa using he
          clear ht
          generalize xs.getD k 0 = x at *
          generalize ys.getD k 0 = y at *
          clear he
          go_wp2
          go_quiet (fail)
          go_wp2
          go_ret
          exact ⟨ret_b HT.out.symm, _, World.drewN_drewN _ _ _⟩
      · go_wp2
        go_ret
        exact ⟨ret_b (eqL_yes xs ys k HL.out (by omega) ht.out).symm, m, rfl⟩
  · have HN := Lib.hid (eqL_len xs ys hl)
    have hl1 : ((xs.length : Int) != (ys.length : Int)) = true := by simpa using fun e => hl (by omega)
    clear hl
    go_enter Try.func9, Try.ntmps9
    go_wp2
    go_ret
    exact ⟨ret_b HN.out.symm, 0, rfl⟩


theorem fillStep (xs : List Int) (k : Nat) (h : k < xs.length) : (xs.take k ++ List.replicate (xs.length - k) 0).set k (xs.getD k 0) = xs.take (k + 1) ++ List.replicate (xs.length - (k + 1)) 0 := by
  rw [take_succ_getD xs k h, List.set_append_right _ _ (by simp; omega), List.length_take, Nat.min_eq_left (by omega), Nat.sub_self,
    show xs.length - k = (xs.length - (k + 1)) + 1 by omega, List.replicate_succ]
  simp
set_option maxHeartbeats 400000 in
/-- A copy of a list in a new row. -/
theorem toIntS_calls (A : Option Addr) (c : Nat) (xs : List Int) (w : World) (ha : Rds w w.heap.size .i64 A xs) (hx : xs.length ≤ 1048576) :
    Calls Try.prog 7 #[.slice A xs.length c] w fun e w' => ∃ v, e = .returned v ∧ Own w' w.heap.size v xs ∧ Below w.heap.size w w' := by
  obtain ⟨i0, hi, hz0, hz1, hz2⟩ := info_parts intInfo
  go_enter Try.func7, Try.ntmps7
  go_wp2_with (at_make; refine wpList_make_full _ rfl _ _ 22 rfl w.heap.size 3 i0 (.int .i64 0) 1 Try.underlying22 hi hz0 hz1 _ _ _ _ xs.length rfl rfl rfl rfl (by rw [hz2]; omega) (by unfold maxLen; omega) (Nat.le_refl _) ?_; intro w1 hown hgrow)
  have hown' : Own w1 w.heap.size (.slice (some ⟨w.heap.size, 0, none⟩) xs.length xs.length) (List.replicate xs.length 0) := by
    rw [madeCells_int] at hown
    unfold Own
    simpa using hown
  have hb1 : Below w.heap.size w w1 := (Below.refl _ _).grown hgrow (Nat.le_refl _) (by simp)
  have ha1 : Rds w1 w.heap.size .i64 A xs := ha.below hb1
  have HZ := Lib.hid hz2
  have HB := Lib.hid hb1
  have HA := Lib.hid ha1
  have HO := Lib.hid hown'
  clear hown hgrow hi hz0 hz1 hz2 hb1 ha1 hown'
  go_loopw [4] (fun i wr => ∃ k : Nat, k ≤ xs.length ∧ i = .int .i64 k ∧ Hid (Own wr w.heap.size (.slice (some ⟨w.heap.size, 0, none⟩) xs.length xs.length) (xs.take k ++ List.replicate (xs.length - k) 0)) ∧ Hid (Below w.heap.size w wr)) (fun i _ => xs.length - (intOf i).toNat)
  case atStart => exact ⟨0, Nat.zero_le _, rfl, Lib.hid (by simpa using HO.out), HB⟩
  case round =>
    obtain ⟨k, hk, rfl, ho, hb⟩ := hrel
    by_cases hlt : k < xs.length
    · obtain ⟨b1, o1, rfl, hlt1, c1⟩ := (ha.below hb.out).at_ hlt
      have c2 := ho.out.cell (j := k) (by simp; omega)
      have f2 := ho.out.free k
      have HS := Lib.hid (ho.out.set k (xs.getD k 0))
      rw [fillStep xs k hlt] at HS
      have HB' := Lib.hid (hb.out.setCell (p := ⟨w.heap.size, k, none⟩) (Nat.le_refl _) (.int .i64 (xs.getD k 0)))
      clear ho hb
      generalize xs.getD k 0 = x at *
      go_wp2
      go_roundw
      case rel => exact ⟨k + 1, by omega, by go_num, HS, HB'⟩
      case measure => simp [intOf]; omega
    · have HS : Own wr w.heap.size (.slice (some ⟨w.heap.size, 0, none⟩) xs.length xs.length) xs := by
        have := ho.out
        rwa [show xs.length - k = 0 by omega, List.replicate_zero, List.append_nil, List.take_of_length_le (by omega)] at this
      have HS' := Lib.hid HS
      clear HS ho
      go_wp2
      go_ret
      exact ⟨_, rfl, HS'.out, hb.out⟩

/-- The word of a list of places: one place more, or none. -/
def addPl : Option Int → Int → Option Int
  | some t, p => if 0 ≤ p ∧ p ≤ 23 ∧ bitI t p = 0 then some (t + powI p) else none
  | none, _ => none
def wof (xs : List Int) : Option Int := xs.foldl addPl (some 0)
def resW : Option Int → Value
  | some t => .tuple #[.int .i64 t, .bool true]
  | none => .tuple #[.int .i64 0, .bool false]
theorem wof_succ (xs : List Int) (k : Nat) (h : k < xs.length) : wof (xs.take (k + 1)) = addPl (wof (xs.take k)) (xs.getD k 0) := by
  unfold wof
  rw [take_succ_getD xs k h, List.foldl_append]; rfl
theorem foldl_none (xs : List Int) : xs.foldl addPl none = none := by
  induction xs with
  | nil => rfl
  | cons x xs ih => simpa [List.foldl, addPl] using ih
theorem wof_none (xs : List Int) (k : Nat) (h : wof (xs.take k) = none) : wof xs = none := by
  unfold wof at *
  rw [← List.take_append_drop k xs, List.foldl_append, h, foldl_none]
theorem nat_xor_add (T q : Nat) (h : T &&& q = 0) : T ^^^ q = T + q := by
  have hb : T + q < 2 ^ (T + q) := Nat.lt_two_pow_self
  have e := BitVec.add_eq_or_of_and_eq_zero (BitVec.ofNat (T + q) T) (BitVec.ofNat (T + q) q) (by
    apply BitVec.eq_of_toNat_eq
    rw [BitVec.toNat_and, BitVec.toNat_ofNat, BitVec.toNat_ofNat, Nat.mod_eq_of_lt (by omega), Nat.mod_eq_of_lt (by omega), h]
    simp)
  have e2 := congrArg BitVec.toNat e
  rw [BitVec.toNat_add, BitVec.toNat_or, BitVec.toNat_ofNat, BitVec.toNat_ofNat, Nat.mod_eq_of_lt (show T < 2 ^ (T + q) by omega), Nat.mod_eq_of_lt (show q < 2 ^ (T + q) by omega), Nat.mod_eq_of_lt hb] at e2
  rw [e2]
  apply Nat.eq_of_testBit_eq
  intro i
  rw [Nat.testBit_xor, Nat.testBit_or]
  have := congrArg (fun n => n.testBit i) h
  simp only [Nat.testBit_and, Nat.zero_testBit] at this
  revert this
  cases T.testBit i <;> cases q.testBit i <;> simp
theorem xor_pow (t p : Int) (h0 : 0 ≤ t) (h2 : 0 ≤ p) (hb : bitI t p = 0) : xorI t (powI p) = t + powI p := by
  have hm := and_pow t p h0 h2
  rw [hb, Int.zero_mul] at hm
  obtain ⟨T, rfl⟩ := Int.eq_ofNat_of_zero_le h0
  have hp := powI_pos p
  obtain ⟨q, hq⟩ := Int.eq_ofNat_of_zero_le (show 0 ≤ powI p by omega)
  rw [hq] at hm ⊢
  unfold andI at hm
  unfold xorI
  rw [Int.toNat_natCast, Int.toNat_natCast] at hm
  rw [Int.toNat_natCast, Int.toNat_natCast, nat_xor_add T q (by omega)]
  omega
theorem pow_val (p : Int) (h0 : 0 ≤ p) (h1 : p ≤ 23) : powI p < 16777216 ∧ 0 < powI p := ⟨by have := powI_le p h0 h1; omega, powI_pos p⟩
theorem wrap_pow (t p : Int) (h0 : 0 ≤ t + powI p) (h1 : t + powI p ≤ 16777215) (h2 : powI p < 16777216) (h3 : 0 < powI p) : wrap64 (t + wrap64 (2 ^ p.toNat)) = t + powI p := by
  have a : wrap64 (powI p) = powI p := IntWalk.wrap64_in _ (by omega)
  show wrap64 (t + wrap64 (powI p)) = t + powI p
  rw [a]
  exact IntWalk.wrap64_in _ (by omega)
theorem addPl_range (t p : Int) (h0 : 0 ≤ t) (h1 : t ≤ 16777215) (hp0 : 0 ≤ p) (hp1 : p ≤ 23) (hb : bitI t p = 0) : 0 ≤ t + powI p ∧ t + powI p ≤ 16777215 := by
  have a := xor_pow t p h0 hp0 hb
  have b := xorI_le t (powI p) h1 (by have := powI_le p hp0 hp1; omega)
  have c := powI_pos p
  omega

end Go.Proofs.Ytmeejnkpaiinaaa