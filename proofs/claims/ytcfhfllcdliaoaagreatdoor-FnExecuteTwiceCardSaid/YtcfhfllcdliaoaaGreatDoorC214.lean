/- Drawing scripts: DrawExecute. -/
import Derived.Test.YtcfhfllcdliaoaaGreatDoorC210
namespace Go.Proofs.YtcfhfllcdliaoaaGreatDoor
open Go.RowKit
set_option linter.unusedVariables false
set_option linter.unusedSimpArgs false

set_option maxHeartbeats 1000000 in
theorem l6Many_calls (s : ByteArray) (n : Nat) (w : World) (hn : n ≤ 1000) (hs : s.size * n ≤ 1000) (h1 : s.size ≤ 1000) :
    Calls Tryz.prog 30 #[.string s, .int .i64 (n : Int)] w fun e w' => ∃ o : ByteArray, e = .returned (.string o) ∧ o.size ≤ 1000 ∧ w = w' := by
  have HS := Lib.hid hs
  go_enter Tryz.func30, Tryz.ntmps30
  go_wp2_with fail
  go_loopw [0, 1, 5] (fun x y o wr => ∃ (a b : ByteArray) (k : Nat), x = .string a ∧ y = .int .i64 (k : Int) ∧ o = .string b ∧ wr = w ∧ Hid (k ≤ 1000 ∧ b.size + a.size * k ≤ 1000 ∧ a.size ≤ 2000)) (fun _ y _ _ => (intOf y).toNat)
  case atStart => exact ⟨s, ⟨#[]⟩, n, rfl, rfl, rfl, rfl, Lib.hid ⟨hn, by show 0 + s.size * n ≤ 1000; omega, by omega⟩⟩
  case round =>
    obtain ⟨a, b, k, rfl, rfl, rfl, rfl, hh⟩ := hrel
    by_cases hk : 0 < k
    · have hk1 : (0 : Int) < (k : Int) := by omega
      have hle : a.size ≤ 1000 := by
        have := hh.out.2.1
        have h2 : a.size * 1 ≤ a.size * k := Nat.mul_le_mul_left _ hk
        omega
      have hadd2 : ∀ W : World, (Op.stringOp .add a a).run Tryz.prog W = .ok (.string (a ++ a)) W := fun W => addS a a (by omega) W
      have hq : (k : Int).tdiv 2 = ((k / 2 : Nat) : Int) := by rw [Int.tdiv_eq_ediv_of_nonneg (by omega)]; omega
      have hr : (k : Int).tmod 2 = ((k % 2 : Nat) : Int) := by rw [Int.tmod_eq_emod_of_nonneg (by omega)]; omega
      have hw : wrap64 ((k / 2 : Nat) : Int) = ((k / 2 : Nat) : Int) := by have := hh.out.1; unfold wrap64; omega
      have hw2 : wrap64 ((k : Int) / 2) = ((k / 2 : Nat) : Int) := by have := hh.out.1; unfold wrap64; omega
      rcases Nat.mod_two_eq_zero_or_one k with h0 | h0
      · have e1 : (((k % 2 : Nat) : Int) == 1) = false := by rw [h0]; rfl
        have e2 : ((k : Int) % 2 == 1) = false := by simp; omega
        have HN := Lib.hid (show b.size + (a ++ a).size * (k / 2) ≤ 1000 from by
          rw [sizeS]
          have h3 : k = 2 * (k / 2) := by omega
          have h2 := hh.out.2.1
          rw [h3] at h2
          have h4 : a.size * (2 * (k / 2)) = (a.size + a.size) * (k / 2) := by rw [← Nat.mul_assoc, Nat.mul_comm a.size 2, Nat.two_mul]
          omega)
        clear h0
        go_wp2_with fail
        go_roundw
        case rel => exact ⟨a ++ a, b, k / 2, rfl, by first | rfl | go_num | (simp; omega), rfl, by first | rfl | trivial, Lib.hid ⟨by have := hh.out.1; omega, HN.out, by rw [sizeS]; omega⟩⟩
        case measure => rw [hw2]; show ((k / 2 : Nat) : Int).toNat < ((k : Nat) : Int).toNat; rw [Int.toNat_natCast, Int.toNat_natCast]; exact Nat.div_lt_self hk (by decide)
      · have e1 : (((k % 2 : Nat) : Int) == 1) = true := by rw [h0]; rfl
        have e2 : ((k : Int) % 2 == 1) = true := by simp; omega
        have hb1 : b.size ≤ 1000 := by have := hh.out.2.1; omega
        have hadd1 : ∀ W : World, (Op.stringOp .add b a).run Tryz.prog W = .ok (.string (b ++ a)) W := fun W => addS b a (by omega) W
        have HN := Lib.hid (show (b ++ a).size + (a ++ a).size * (k / 2) ≤ 1000 from by
          rw [sizeS, sizeS]
          have h3 : k = 2 * (k / 2) + 1 := by omega
          have h2 := hh.out.2.1
          rw [h3] at h2
          have h4 : a.size * (2 * (k / 2) + 1) = (a.size + a.size) * (k / 2) + a.size := by rw [Nat.mul_add, ← Nat.mul_assoc, Nat.mul_comm a.size 2, Nat.two_mul, Nat.mul_one]
          omega)
        clear h0
        go_wp2_with fail
        go_roundw
        case rel => exact ⟨a ++ a, b ++ a, k / 2, rfl, by first | rfl | go_num | (simp; omega), rfl, by first | rfl | trivial, Lib.hid ⟨by have := hh.out.1; omega, HN.out, by rw [sizeS]; omega⟩⟩
        case measure => rw [hw2]; show ((k / 2 : Nat) : Int).toNat < ((k : Nat) : Int).toNat; rw [Int.toNat_natCast, Int.toNat_natCast]; exact Nat.div_lt_self hk (by decide)
    · obtain rfl : k = 0 := by omega
      go_wp2_with fail
      go_ret
      exact ⟨b, rfl, by have := hh.out.2.1; omega, rfl⟩
set_option maxHeartbeats 4000000 in
theorem DrawExecute_calls (A : Option Addr) (c : Nat) (bs : List Int) (w : World) (hr : Rds w w.heap.size .u8 A bs) (hc : bs.length ≤ c) (hm : c ≤ maxLen) (hv : ∀ i, 0 ≤ bs.getD i 0 ∧ bs.getD i 0 ≤ 255) :
    Calls Tryz.prog 10 #[.slice A bs.length c] w fun e w' => ∃ s : ByteArray, e = .returned (.string s) ∧ s.size ≤ 3000 ∧ Below w.heap.size w w' := by
  go_enter Tryz.func10, Tryz.ntmps10
  go_wp2_with fail
  refine (l6Open_calls A c bs _ hr hc hm hv).mono ?_
  rintro e w1 ⟨g, rfl, hg, r1, b1⟩
  have D1 := Lib.hid (Dr.mk r1 b1)
  clear r1 b1
  go_wp2_with fail
  refine (pick_calls g 0 8 _ D1.out.rd (by omega) (by omega) (by omega)).mono ?_
  rintro e w2 ⟨n, rfl, n0, n1, r2, g2⟩
  have D2 := Lib.hid (D1.out.next hg r2 g2)
  obtain ⟨n, rfl⟩ := Int.eq_ofNat_of_zero_le n0
  clear r2 g2 D1
  go_wp2_with fail
  go_loopw [4, 6] (fun o i wr => ∃ (k q : Nat) (s : ByteArray), k ≤ n ∧ i = .int .i64 (k : Int) ∧ o = .string s ∧ Hid (Dr w wr g q ∧ q ≤ 1 + 3 * k ∧ s.size ≤ 130 * k)) (fun _ i _ => n - (intOf i).toNat)
  case atStart => exact ⟨0, 1, ⟨#[]⟩, by omega, rfl, rfl, Lib.hid ⟨D2.out, by omega, by show 0 ≤ 0; omega⟩⟩
  case round =>
    obtain ⟨k, q, s, hk, rfl, rfl, hh⟩ := hrel
    clear D2
    by_cases hlt : k < n
    · have hk1 : (k : Int) < (n : Int) := by omega
      have HL := Lib.hid (l92Line_calls g q w wr hh.out.1 hg (by have := hh.out.2.1; omega))
      go_wp2_with fail
      refine HL.out.mono ?_
      rintro e w3 ⟨t, q', rfl, ht, hq', hd⟩
      have hs := hh.out.2.2
      have hadd1 : ∀ W : World, (Op.stringOp .add s t).run Tryz.prog W = .ok (.string (s ++ t)) W := fun W => addS s t (by omega) W
      have hadd2 : ∀ W : World, (Op.stringOp .add (s ++ t) (⟨#[10]⟩ : ByteArray)).run Tryz.prog W = .ok (.string ((s ++ t) ++ ⟨#[10]⟩)) W := fun W => addS _ _ (by rw [sizeS]; show s.size + t.size + 1 ≤ _; omega) W
      have HN := Lib.hid (show ((s ++ t) ++ (⟨#[10]⟩ : ByteArray)).size ≤ 130 * (k + 1) from by rw [sizeS, sizeS]; show s.size + t.size + 1 ≤ _; omega)
      have HD := Lib.hid hd
      have HQ := Lib.hid (show q' ≤ 1 + 3 * (k + 1) from by have := hh.out.2.1; omega)
      clear hs hd hq' ht HL hh
      go_wp2_with fail
      go_roundw
      case rel => exact ⟨k + 1, q', _, by omega, by go_num, by first | rfl | assumption, Lib.hid ⟨HD.out, HQ.out, HN.out⟩⟩
      case measure => simp [intOf]; omega
    · obtain rfl : k = n := by omega
      have hlt2 : ¬ ((k : Int) < (k : Int)) := by omega
      have HP := Lib.hid (pick_calls g q 24 wr hh.out.1.rd (by have := hh.out.2.1; omega) (by omega) (by omega))
      have hs : s.size ≤ 910 := by have := hh.out.2.2; omega
      go_wp2_with fail
      refine HP.out.mono ?_
      rintro e w3 ⟨v, rfl, v0, v1, r3, g3⟩
      have D3 := Lib.hid (hh.out.1.next hg r3 g3).below
      clear r3 g3 HP hh
      rcases (by omega : v = 0 ∨ v = 1 ∨ 1 < v) with rfl | rfl | h
      · have hadd : ∀ W : World, (Op.stringOp .add s (⟨#[115, 104, 111, 119]⟩ : ByteArray)).run Tryz.prog W = .ok (.string (s ++ ⟨#[115, 104, 111, 119]⟩)) W := fun W => addS s _ (by show s.size + 4 ≤ _; omega) W
        go_wp2_with fail
        go_ret
        exact ⟨_, rfl, by rw [sizeS]; show s.size + 4 ≤ 3000; omega, D3.out⟩
      · have HM := Lib.hid (fun W => l6Many_calls ⟨#[115, 104, 111, 119, 10]⟩ 130 W (by omega) (by decide) (by decide))
        go_wp2_with fail
        refine (HM.out _).mono ?_
        rintro e w4 ⟨o, rfl, ho, rfl⟩
        have hadd : ∀ W : World, (Op.stringOp .add s o).run Tryz.prog W = .ok (.string (s ++ o)) W := fun W => addS s o (by omega) W
        go_wp2_with fail
        go_ret
        exact ⟨_, rfl, by rw [sizeS]; omega, D3.out⟩
      · have e0 : (v == 0) = false := by simp; omega
        have e1 : (v == 1) = false := by simp; omega
        go_wp2_with fail
        go_ret
        exact ⟨s, rfl, by omega, D3.out⟩
end Go.Proofs.YtcfhfllcdliaoaaGreatDoor
