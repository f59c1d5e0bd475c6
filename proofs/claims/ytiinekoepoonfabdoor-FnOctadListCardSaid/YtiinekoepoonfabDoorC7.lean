/- The contract of the model's word of a message. -/
import Derived.Test.YtiinekoepoonfabDoorC6
namespace Go.Proofs.YtiinekoepoonfabDoor
open Go.RowKit
set_option linter.unusedVariables false

set_option maxHeartbeats 1000000 in
theorem l3Of_calls (m : Int) (w : World) (h0 : 0 ≤ m) (h1 : m ≤ 4095) :
    Calls Tryd.prog 79 #[.int .i64 m] w fun e w' => e = .returned (.int .i64 (codeOf m)) ∧ Below w.heap.size w w' := by
  go_enter Tryd.func79, Tryd.ntmps79
  go_wp2_with (go_at_call 102; refine (l2Of_calls _ _ _ _ (by omega) (by omega) (by omega) (by omega) (by omega) (by omega)).mono ?_; rintro e w1 ⟨v, rfl, ho, hb⟩)
  have hrow := hexRow_range (m % 4) (m / 4 % 4) (m / 16 % 4) (by omega) (by omega) (by omega) (by omega) (by omega) (by omega)
  have h30 : (hexRow (m % 4) (m / 4 % 4) (m / 16 % 4)).getD 0 0 = m % 4 := rfl
  have hlen : (hexRow (m % 4) (m / 4 % 4) (m / 16 % 4)).length = 6 := rfl
  have HF := Lib.hid (show codeOf m = (ofTo (hexRow (m % 4) (m / 4 % 4) (m / 16 % 4)) m 5).1 + fillC (m % 4) (m / 64 % 2) (xorI (ofTo (hexRow (m % 4) (m / 4 % 4) (m / 16 % 4)) m 5).2 (m / 64 % 2)) from rfl)
  generalize hexRow (m % 4) (m / 4 % 4) (m / 16 % 4) = row at *
  obtain ⟨g, cap, rfl, hg⟩ : ∃ g cap, v = .slice (some ⟨g, 0, none⟩) 6 cap ∧ w.heap.size ≤ g := by
    rcases ho.form with ⟨_, h⟩ | ⟨g, cap, h, h2, _⟩
    · subst h; cases hlen
    · rw [hlen] at h; exact ⟨g, cap, h, h2⟩
  have HO := Lib.hid ho
  have HB := Lib.hid hb
  have HR := Lib.hid hrow
  have HL := Lib.hid hlen
  have H0 := Lib.hid h30
  clear ho hb hrow hlen h30
  go_loopw [5, 6, 7, 8] (fun p t c _ wr => ∃ j : Nat, j ≤ 5 ∧ c = .int .i64 ((j : Int) + 1) ∧ p = .int .i64 (ofTo row m j).1 ∧ t = .int .i64 (ofTo row m j).2 ∧ Hid (Own wr w.heap.size (.slice (some ⟨g, 0, none⟩) 6 cap) row) ∧ Hid (Below w.heap.size w wr)) (fun _ _ c _ _ => 6 - (intOf c).toNat)
  case atStart => exact ⟨0, by omega, rfl, rfl, rfl, HO, HB⟩
  case round =>
    obtain ⟨j, hj, rfl, rfl, rfl, ho, hb⟩ := hrel
    clear HO HB
    have hr := ofTo_range row m HR.out j hj
    have hpl := ofTo_le row m HR.out j hj
    by_cases hlt : j < 5
    · have hc := ho.out.cell (j := j + 1) (by have := HL.out; omega)
      have hd := HR.out (j + 1)
      have HS1 := Lib.hid (show (ofTo row m (j + 1)).1 = (ofTo row m j).1 + fillC (row.getD (j + 1) 0) (m / 64 % 2) (bitI m (6 + ((j : Int) + 1))) * 2 ^ (4 * (j + 1)) from rfl)
      have HS2 := Lib.hid (show (ofTo row m (j + 1)).2 = xorI (ofTo row m j).2 (bitI m (6 + ((j : Int) + 1))) from rfl)
      generalize (ofTo row m j).1 = p at *
      generalize (ofTo row m j).2 = t at *
      generalize row.getD (j + 1) 0 = d at *
      have hb0 := bitI_nonneg m (6 + ((j : Int) + 1))
      have hb1 := bitI_le m (6 + ((j : Int) + 1))
      have hbt : bits .and .i64 (m / 2 ^ (6 + (j + 1))) 1 = bitI m (6 + ((j : Int) + 1)) := by
        rw [and1_i64]; unfold bitI; rw [show (6 + ((j : Int) + 1)).toNat = 6 + (j + 1) by omega]
      have htb : bits .xor .i64 t (bitI m (6 + ((j : Int) + 1))) = xorI t (bitI m (6 + ((j : Int) + 1))) := xor_i64 _ _ hr.2.2.1 (by omega) hb0 (by omega)
      have hfr := fillC_range d (m / 64 % 2) (bitI m (6 + ((j : Int) + 1))) hd.1 hd.2 (by omega) (by omega) hb0 hb1
      go_wp2_with (go_at_call 103; refine (l3Fill_calls _ _ _ _ (by omega) (by omega) (by omega) (by omega) (by omega) (by omega)).mono ?_; rintro e w2 ⟨rfl, hb2⟩)
      have hsh := fill_shift _ j hlt hfr.1 hfr.2
      have hw1 : wrap64 (p + wrap64 (fillC d (m / 64 % 2) (bitI m (6 + ((j : Int) + 1))) * 2 ^ (4 * (j + 1)))) = (ofTo row m (j + 1)).1 := by
        rw [HS1.out, IntWalk.wrap64_in (fillC d (m / 64 % 2) (bitI m (6 + ((j : Int) + 1))) * 2 ^ (4 * (j + 1))) (by omega)]
        exact IntWalk.wrap64_in _ (by omega)
      go_roundw
      case rel => exact ⟨j + 1, by omega, by go_num, by rw [hw1], by rw [HS2.out], Lib.hid (ho.out.below hb2), Lib.hid (hb.out.trans (hb2.mono hb.out.size))⟩
      case measure => simp [intOf]; omega
    · obtain rfl : j = 5 := by omega
      have hc := ho.out.cell (j := 0) (by have := HL.out; omega)
      rw [H0.out] at hc
      have x1 : bits .xor .i64 (ofTo row m 5).2 (m / 64 % 2) = xorI (ofTo row m 5).2 (m / 64 % 2) := xor_i64 _ _ hr.2.2.1 (by omega) (by omega) (by omega)
      have hx0 := xorI_nonneg (ofTo row m 5).2 (m / 64 % 2)
      have hx1 := xorI_lt2 (ofTo row m 5).2 (m / 64 % 2) hr.2.2.2 (by omega)
      have hfr := fillC_range (m % 4) (m / 64 % 2) (xorI (ofTo row m 5).2 (m / 64 % 2)) (by omega) (by omega) (by omega) (by omega) hx0 hx1
      go_wp2_with (go_at_call 103; refine (l3Fill_calls _ _ _ _ (by omega) (by omega) (by omega) (by omega) (by omega) (by omega)).mono ?_; rintro e w2 ⟨rfl, hb2⟩)
      go_ret
      exact ⟨ret_i (by rw [HF.out]), hb.out.trans (hb2.mono hb.out.size)⟩
end Go.Proofs.YtiinekoepoonfabDoor
