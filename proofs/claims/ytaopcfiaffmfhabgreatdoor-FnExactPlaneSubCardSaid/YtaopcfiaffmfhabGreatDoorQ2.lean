import Derived.Test.YtaopcfiaffmfhabGreatDoorQ1
import Derived.Test.YtaopcfiaffmfhabGreatDoorP0
import Derived.Test.YtaopcfiaffmfhabGreatDoorP1
import Derived.Lib.Builder
/- Contracts of the model's hexacode rows and words of messages. -/
namespace Go.Proofs.YtaopcfiaffmfhabGreatDoor
open Go.RowKit
set_option linter.unusedVariables false

theorem l2Times_calls (a b : Int) (w : World) (h0 : 0 ≤ a) (h1 : a ≤ 3) (h2 : 0 ≤ b) (h3 : b ≤ 3) :
    Calls Tryz.prog 90 #[.int .i64 a, .int .i64 b] w fun e w' => e = .returned (.int .i64 (mulD a b)) ∧ w = w' := by
  by_cases ha : a = 0
  · have HM := Lib.hid (show mulD a b = 0 by simp [mulD, ha])
    have e1 : (a == 0) = true := by simpa using ha
    clear ha
    go_enter Tryz.func90, Tryz.ntmps90
    go_wp2
    go_ret
    exact ⟨ret_i HM.out.symm, rfl⟩
  · have e1 : (a == 0) = false := by simpa using ha
    by_cases hb : b = 0
    · have HM := Lib.hid (show mulD a b = 0 by simp [mulD, hb])
      have e2 : (b == 0) = true := by simpa using hb
      clear ha hb
      go_enter Tryz.func90, Tryz.ntmps90
      go_wp2
      go_ret
      exact ⟨ret_i HM.out.symm, rfl⟩
    · have HM := Lib.hid (show mulD a b = 1 + (a + b - 2) % 3 by simp [mulD, ha, hb])
      have e2 : (b == 0) = false := by simpa using hb
      have g0 : 1 ≤ a := by omega
      have g1 : 1 ≤ b := by omega
      clear ha hb
      go_enter Tryz.func90, Tryz.ntmps90
      go_wp2
      go_ret
      exact ⟨ret_i HM.out.symm, rfl⟩
set_option maxHeartbeats 1000000 in
theorem l2Of_calls (a b c : Int) (w : World) (h0 : 0 ≤ a) (h1 : a ≤ 3) (h2 : 0 ≤ b) (h3 : b ≤ 3) (h4 : 0 ≤ c) (h5 : c ≤ 3) :
    Calls Tryz.prog 74 #[.int .i64 a, .int .i64 b, .int .i64 c] w fun e w' => ∃ v, e = .returned v ∧ Own w' w.heap.size v (hexRow a b c) ∧ Below w.heap.size w w' := by
  have HO := Lib.hid (show Own (w.alloc (.cells #[.int .i64 a, .int .i64 b, .int .i64 c] 3)) w.heap.size (.slice (some ⟨w.heap.size, 0, none⟩) 3 3) [a, b, c] from
    ⟨rfl, .inr ⟨w.heap.size, 3, _, rfl, Nat.le_refl _, heap_alloc_new w _, by simp, by unfold maxLen; omega, by simp, by simp [vals]⟩⟩)
  go_enter Tryz.func74, Tryz.ntmps74
  go_wp2
  go_loopw [7, 8] (fun v x wr => ∃ k : Nat, k ≤ 3 ∧ x = .int .i64 ((k : Int) + 1) ∧ Hid (Own wr w.heap.size v ((hexRow a b c).take (3 + k))) ∧ Hid (Below w.heap.size w wr)) (fun _ x _ => 4 - (intOf x).toNat)
  case atStart => exact ⟨0, by omega, rfl, HO, Lib.hid ((Below.refl _ _).alloc (Nat.le_refl _) _)⟩
  case round =>
    obtain ⟨k, hk, rfl, ho, hb⟩ := hrel
    clear HO
    by_cases hlt : k < 3
    · have m1 := mulD_range ((k : Int) + 1) ((k : Int) + 1) (by omega) (by omega) (by omega) (by omega)
      have m2 := mulD_range a (mulD ((k : Int) + 1) ((k : Int) + 1)) (by omega) (by omega) m1.1 m1.2
      have m3 := mulD_range b ((k : Int) + 1) (by omega) (by omega) (by omega) (by omega)
      have x1 : bits .xor .i64 (mulD a (mulD ((k : Int) + 1) ((k : Int) + 1))) (mulD b ((k : Int) + 1)) = xorI (mulD a (mulD ((k : Int) + 1) ((k : Int) + 1))) (mulD b ((k : Int) + 1)) := xor_i64 _ _ m2.1 (by omega) m3.1 (by omega)
      have x2 : bits .xor .i64 (xorI (mulD a (mulD ((k : Int) + 1) ((k : Int) + 1))) (mulD b ((k : Int) + 1))) c = hexF a b c ((k : Int) + 1) :=
        xor_i64 _ _ (xorI_nonneg _ _) (by have := xorI_lt4 _ _ m2.2 m3.2; omega) h4 (by omega)
      have HL := Lib.hid (hexRow_step a b c k hlt)
      go_wp2_with (first
        | (go_at_call 90; refine (l2Times_calls _ _ _ (by omega) (by omega) (by omega) (by omega)).mono ?_; rintro e w' ⟨rfl, rfl⟩)
        | (at_builtin; refine wpList_push rfl _ _ rfl wr w.heap.size _ _ _ _ rfl rfl (by exact ho.out) (by simp; omega) hb.out.size ?_; intro v2 w2 ho2 hb2 _))
      rw [HL.out] at ho2
      go_roundw
      case rel => exact ⟨k + 1, by omega, by go_num, Lib.hid ho2, Lib.hid (hb.out.trans hb2)⟩
      case measure => simp [intOf]; omega
    · obtain rfl : k = 3 := by omega
      go_wp2
      go_ret
      exact ⟨_, rfl, ho.out, hb.out⟩
def fillA : Array Value := #[.int .i64 0, .int .i64 12, .int .i64 10, .int .i64 6, .int .i64 15, .int .i64 3, .int .i64 5, .int .i64 9, .int .i64 14, .int .i64 2, .int .i64 4, .int .i64 8, .int .i64 1, .int .i64 13, .int .i64 11, .int .i64 7]
theorem fillA_at (s p f : Int) (h0 : 0 ≤ s) (h1 : s ≤ 3) (h2 : 0 ≤ p) (h3 : p ≤ 1) (h4 : 0 ≤ f) (h5 : f ≤ 1) : fillA[(8 * p + 4 * f + s).toNat]? = some (.int .i64 (fillC s p f)) := by
  have hs : s = 0 ∨ s = 1 ∨ s = 2 ∨ s = 3 := by omega
  have hp : p = 0 ∨ p = 1 := by omega
  have hf : f = 0 ∨ f = 1 := by omega
  clear h0 h1 h2 h3 h4 h5
  rcases hs with rfl | rfl | rfl | rfl <;> rcases hp with rfl | rfl <;> rcases hf with rfl | rfl <;> rfl
theorem l3Fill_calls (s p f : Int) (w : World) (h0 : 0 ≤ s) (h1 : s ≤ 3) (h2 : 0 ≤ p) (h3 : p ≤ 1) (h4 : 0 ≤ f) (h5 : f ≤ 1) :
    Calls Tryz.prog 75 #[.int .i64 s, .int .i64 p, .int .i64 f] w fun e w' => e = .returned (.int .i64 (fillC s p f)) ∧ Below w.heap.size w w' := by
  have hc : (w.alloc (.cells #[.int .i64 0, .int .i64 12, .int .i64 10, .int .i64 6, .int .i64 15, .int .i64 3, .int .i64 5, .int .i64 9, .int .i64 14, .int .i64 2, .int .i64 4, .int .i64 8, .int .i64 1, .int .i64 13, .int .i64 11, .int .i64 7] 130)).cell? ⟨w.heap.size, (8 * p + 4 * f + s).toNat, none⟩ = some (.int .i64 (fillC s p f)) :=
    cell_new w fillA 130 _ _ (fillA_at s p f h0 h1 h2 h3 h4 h5)
  go_enter Tryz.func75, Tryz.ntmps75
  go_wp2
  go_ret
  exact ⟨rfl, (Below.refl _ _).alloc (Nat.le_refl _) _⟩
end Go.Proofs.YtaopcfiaffmfhabGreatDoor
/- The contract of the model's word of a message. -/
namespace Go.Proofs.YtaopcfiaffmfhabGreatDoor
open Go.RowKit
set_option linter.unusedVariables false

set_option maxHeartbeats 1000000 in
theorem l3Of_calls (m : Int) (w : World) (h0 : 0 ≤ m) (h1 : m ≤ 4095) :
    Calls Tryz.prog 63 #[.int .i64 m] w fun e w' => e = .returned (.int .i64 (codeOf m)) ∧ Below w.heap.size w w' := by
  go_enter Tryz.func63, Tryz.ntmps63
  go_wp2_with (go_at_call 74; refine (l2Of_calls _ _ _ _ (by omega) (by omega) (by omega) (by omega) (by omega) (by omega)).mono ?_; rintro e w1 ⟨v, rfl, ho, hb⟩)
  have hrow := hexRow_range (m % 4) (m / 4 % 4) (m / 16 % 4) (by omega) (by omega) (by omega) (by omega) (by omega) (by omega)
  have h30 : (hexRow (m % 4) (m / 4 % 4) (m / 16 % 4)).getD 0 0 = m % 4 := rfl
  have hlen : (hexRow (m % 4) (m / 4 % 4) (m / 16 % 4)).length = 6 := rfl
  have HF := Lib.hid (show codeOf m = (ofTo (hexRow (m % 4) (m / 4 % 4) (m / 16 % 4)) m 5).1 + fillC (m % 4) (m / 64 % 2) (xorI (ofTo (hexRow (m % 4) (m / 4 % 4) (m / 16 % 4)) m 5).2 (m / 64 % 2)) from rfl)
  generalize hexRow (m % 4) (m / 4 % 4) (m / 16 % 4) = row at *
  obtain ⟨g, cap, rfl, hg⟩ : ∃ g cap, v = .slice (some ⟨g, 0, none⟩) 6 cap ∧ w.heap.size ≤ g := by
    rcases ho.form with ⟨_, h⟩ | ⟨g, cap, h, h2, _⟩
    · subst h; cases hlen
    · rw [hlen] at h; exact ⟨g, cap, h, h2⟩
  have HO := Lib.hid ho
  have HB := Lib.hid hb
  have HR := Lib.hid hrow
  have HL := Lib.hid hlen
  have H0 := Lib.hid h30
  clear ho hb hrow hlen h30
  go_loopw [5, 6, 7, 8] (fun p t c _ wr => ∃ j : Nat, j ≤ 5 ∧ c = .int .i64 ((j : Int) + 1) ∧ p = .int .i64 (ofTo row m j).1 ∧ t = .int .i64 (ofTo row m j).2 ∧ Hid (Own wr w.heap.size (.slice (some ⟨g, 0, none⟩) 6 cap) row) ∧ Hid (Below w.heap.size w wr)) (fun _ _ c _ _ => 6 - (intOf c).toNat)
  case atStart => exact ⟨0, by omega, rfl, rfl, rfl, HO, HB⟩
  case round =>
    obtain ⟨j, hj, rfl, rfl, rfl, ho, hb⟩ := hrel
    clear HO HB
    have hr := ofTo_range row m HR.out j hj
    have hpl := ofTo_le row m HR.out j hj
    by_cases hlt : j < 5
    · have hc := ho.out.cell (j := j + 1) (by have := HL.out; omega)
      have hd := HR.out (j + 1)
      have HS1 := Lib.hid (show (ofTo row m (j + 1)).1 = (ofTo row m j).1 + fillC (row.getD (j + 1) 0) (m / 64 % 2) (bitI m (6 + ((j : Int) + 1))) * 2 ^ (4 * (j + 1)) from rfl)
      have HS2 := Lib.hid (show (ofTo row m (j + 1)).2 = xorI (ofTo row m j).2 (bitI m (6 + ((j : Int) + 1))) from rfl)
      generalize (ofTo row m j).1 = p at *
      generalize (ofTo row m j).2 = t at *
      generalize row.getD (j + 1) 0 = d at *
      have hb0 := bitI_nonneg m (6 + ((j : Int) + 1))
      have hb1 := bitI_le m (6 + ((j : Int) + 1))
      have hbt : bits .and .i64 (m / 2 ^ (6 + (j + 1))) 1 = bitI m (6 + ((j : Int) + 1)) := by
        rw [and1_i64]; unfold bitI; rw [show (6 + ((j : Int) + 1)).toNat = 6 + (j + 1) by omega]
      have htb : bits .xor .i64 t (bitI m (6 + ((j : Int) + 1))) = xorI t (bitI m (6 + ((j : Int) + 1))) := xor_i64 _ _ hr.2.2.1 (by omega) hb0 (by omega)
      have hfr := fillC_range d (m / 64 % 2) (bitI m (6 + ((j : Int) + 1))) hd.1 hd.2 (by omega) (by omega) hb0 hb1
      go_wp2_with (go_at_call 75; refine (l3Fill_calls _ _ _ _ (by omega) (by omega) (by omega) (by omega) (by omega) (by omega)).mono ?_; rintro e w2 ⟨rfl, hb2⟩)
      have hsh := fill_shift _ j hlt hfr.1 hfr.2
      have hw1 : wrap64 (p + wrap64 (fillC d (m / 64 % 2) (bitI m (6 + ((j : Int) + 1))) * 2 ^ (4 * (j + 1)))) = (ofTo row m (j + 1)).1 := by
        rw [HS1.out, IntWalk.wrap64_in (fillC d (m / 64 % 2) (bitI m (6 + ((j : Int) + 1))) * 2 ^ (4 * (j + 1))) (by omega)]
        exact IntWalk.wrap64_in _ (by omega)
      go_roundw
      case rel => exact ⟨j + 1, by omega, by go_num, by rw [hw1], by rw [HS2.out], Lib.hid (ho.out.below hb2), Lib.hid (hb.out.trans (hb2.mono hb.out.size))⟩
      case measure => simp [intOf]; omega
    · obtain rfl : j = 5 := by omega
      have hc := ho.out.cell (j := 0) (by have := HL.out; omega)
      rw [H0.out] at hc
      have x1 : bits .xor .i64 (ofTo row m 5).2 (m / 64 % 2) = xorI (ofTo row m 5).2 (m / 64 % 2) := xor_i64 _ _ hr.2.2.1 (by omega) (by omega) (by omega)
      have hx0 := xorI_nonneg (ofTo row m 5).2 (m / 64 % 2)
      have hx1 := xorI_lt2 (ofTo row m 5).2 (m / 64 % 2) hr.2.2.2 (by omega)
      have hfr := fillC_range (m % 4) (m / 64 % 2) (xorI (ofTo row m 5).2 (m / 64 % 2)) (by omega) (by omega) (by omega) (by omega) hx0 hx1
      go_wp2_with (go_at_call 75; refine (l3Fill_calls _ _ _ _ (by omega) (by omega) (by omega) (by omega) (by omega) (by omega)).mono ?_; rintro e w2 ⟨rfl, hb2⟩)
      go_ret
      exact ⟨ret_i (by rw [HF.out]), hb.out.trans (hb2.mono hb.out.size)⟩
end Go.Proofs.YtaopcfiaffmfhabGreatDoor
/- Contracts of the reader of drawn bytes: opening it, one pick. -/
namespace Go.Proofs.YtaopcfiaffmfhabGreatDoor
end Go.Proofs.YtaopcfiaffmfhabGreatDoor
/- Contracts of drawing words. -/
namespace Go.Proofs.YtaopcfiaffmfhabGreatDoor
end Go.Proofs.YtaopcfiaffmfhabGreatDoor