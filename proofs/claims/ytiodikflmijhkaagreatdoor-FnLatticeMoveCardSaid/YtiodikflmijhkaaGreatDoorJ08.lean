/- Joined texts: Q2 Q4 Q5. -/
import Derived.Test.YtiodikflmijhkaaGreatDoorJ07
import Derived.Test.YtiodikflmijhkaaGreatDoorJ00
import Derived.Test.YtiodikflmijhkaaGreatDoorJ01
import Derived.Lib.Builder
import Derived.Test.YtiodikflmijhkaaGreatDoorJ05
import Derived.Deep.RegionHeld3
import Derived.Deep.AppendLies
import Derived.Deep.QuietTactic
import Derived.BigQuiet
import Derived.ChangeKeysEq
section
namespace Go.Proofs.YtiodikflmijhkaaGreatDoor
open Go.RowKit
set_option linter.unusedVariables false

theorem l2Times_calls (a b : Int) (w : World) (h0 : 0 ≤ a) (h1 : a ≤ 3) (h2 : 0 ≤ b) (h3 : b ≤ 3) :
    Calls Tryz.prog 64 #[.int .i64 a, .int .i64 b] w fun e w' => e = .returned (.int .i64 (mulD a b)) ∧ w = w' := by
  by_cases ha : a = 0
  · have HM := Lib.hid (show mulD a b = 0 by simp [mulD, ha])
    have e1 : (a == 0) = true := by simpa using ha
    clear ha
    go_enter Tryz.func64, Tryz.ntmps64
    go_wp2
    go_ret
    exact ⟨ret_i HM.out.symm, rfl⟩
  · have e1 : (a == 0) = false := by simpa using ha
    by_cases hb : b = 0
    · have HM := Lib.hid (show mulD a b = 0 by simp [mulD, hb])
      have e2 : (b == 0) = true := by simpa using hb
      clear ha hb
      go_enter Tryz.func64, Tryz.ntmps64
      go_wp2
      go_ret
      exact ⟨ret_i HM.out.symm, rfl⟩
    · have HM := Lib.hid (show mulD a b = 1 + (a + b - 2) % 3 by simp [mulD, ha, hb])
      have e2 : (b == 0) = false := by simpa using hb
      have g0 : 1 ≤ a := by omega
      have g1 : 1 ≤ b := by omega
      clear ha hb
      go_enter Tryz.func64, Tryz.ntmps64
      go_wp2
      go_ret
      exact ⟨ret_i HM.out.symm, rfl⟩
set_option maxHeartbeats 1000000 in
theorem l2Of_calls (a b c : Int) (w : World) (h0 : 0 ≤ a) (h1 : a ≤ 3) (h2 : 0 ≤ b) (h3 : b ≤ 3) (h4 : 0 ≤ c) (h5 : c ≤ 3) :
    Calls Tryz.prog 34 #[.int .i64 a, .int .i64 b, .int .i64 c] w fun e w' => ∃ v, e = .returned v ∧ Own w' w.heap.size v (hexRow a b c) ∧ Below w.heap.size w w' := by
  have HO := Lib.hid (show Own (w.alloc (.cells #[.int .i64 a, .int .i64 b, .int .i64 c] 3)) w.heap.size (.slice (some ⟨w.heap.size, 0, none⟩) 3 3) [a, b, c] from
    ⟨rfl, .inr ⟨w.heap.size, 3, _, rfl, Nat.le_refl _, heap_alloc_new w _, by simp, by unfold maxLen; omega, by simp, by simp [vals]⟩⟩)
  go_enter Tryz.func34, Tryz.ntmps34
  go_wp2
  go_loopw [7, 8] (fun v x wr => ∃ k : Nat, k ≤ 3 ∧ x = .int .i64 ((k : Int) + 1) ∧ Hid (Own wr w.heap.size v ((hexRow a b c).take (3 + k))) ∧ Hid (Below w.heap.size w wr)) (fun _ x _ => 4 - (intOf x).toNat)
  case atStart => exact ⟨0, by omega, rfl, HO, Lib.hid ((Below.refl _ _).alloc (Nat.le_refl _) _)⟩
  case round =>
    obtain ⟨k, hk, rfl, ho, hb⟩ := hrel
    clear HO
    by_cases hlt : k < 3
    · have m1 := mulD_range ((k : Int) + 1) ((k : Int) + 1) (by omega) (by omega) (by omega) (by omega)
      have m2 := mulD_range a (mulD ((k : Int) + 1) ((k : Int) + 1)) (by omega) (by omega) m1.1 m1.2
      have m3 := mulD_range b ((k : Int) + 1) (by omega) (by omega) (by omega) (by omega)
      have x1 : bits .xor .i64 (mulD a (mulD ((k : Int) + 1) ((k : Int) + 1))) (mulD b ((k : Int) + 1)) = xorI (mulD a (mulD ((k : Int) + 1) ((k : Int) + 1))) (mulD b ((k : Int) + 1)) := xor_i64 _ _ m2.1 (by omega) m3.1 (by omega)
      have x2 : bits .xor .i64 (xorI (mulD a (mulD ((k : Int) + 1) ((k : Int) + 1))) (mulD b ((k : Int) + 1))) c = hexF a b c ((k : Int) + 1) :=
        xor_i64 _ _ (xorI_nonneg _ _) (by have := xorI_lt4 _ _ m2.2 m3.2; omega) h4 (by omega)
      have HL := Lib.hid (hexRow_step a b c k hlt)
      go_wp2_with (first
        | (go_at_call 64; refine (l2Times_calls _ _ _ (by omega) (by omega) (by omega) (by omega)).mono ?_; rintro e w' ⟨rfl, rfl⟩)
        | (at_builtin; refine wpList_push rfl _ _ rfl wr w.heap.size _ _ _ _ rfl rfl (by exact ho.out) (by simp; omega) hb.out.size ?_; intro v2 w2 ho2 hb2 _))
      rw [HL.out] at ho2
      go_roundw
      case rel => exact ⟨k + 1, by omega, by go_num, Lib.hid ho2, Lib.hid (hb.out.trans hb2)⟩
      case measure => simp [intOf]; omega
    · obtain rfl : k = 3 := by omega
      go_wp2
      go_ret
      exact ⟨_, rfl, ho.out, hb.out⟩
def fillA : Array Value := #[.int .i64 0, .int .i64 12, .int .i64 10, .int .i64 6, .int .i64 15, .int .i64 3, .int .i64 5, .int .i64 9, .int .i64 14, .int .i64 2, .int .i64 4, .int .i64 8, .int .i64 1, .int .i64 13, .int .i64 11, .int .i64 7]
theorem fillA_at (s p f : Int) (h0 : 0 ≤ s) (h1 : s ≤ 3) (h2 : 0 ≤ p) (h3 : p ≤ 1) (h4 : 0 ≤ f) (h5 : f ≤ 1) : fillA[(8 * p + 4 * f + s).toNat]? = some (.int .i64 (fillC s p f)) := by
  have hs : s = 0 ∨ s = 1 ∨ s = 2 ∨ s = 3 := by omega
  have hp : p = 0 ∨ p = 1 := by omega
  have hf : f = 0 ∨ f = 1 := by omega
  clear h0 h1 h2 h3 h4 h5
  rcases hs with rfl | rfl | rfl | rfl <;> rcases hp with rfl | rfl <;> rcases hf with rfl | rfl <;> rfl
theorem l3Fill_calls (s p f : Int) (w : World) (h0 : 0 ≤ s) (h1 : s ≤ 3) (h2 : 0 ≤ p) (h3 : p ≤ 1) (h4 : 0 ≤ f) (h5 : f ≤ 1) :
    Calls Tryz.prog 102 #[.int .i64 s, .int .i64 p, .int .i64 f] w fun e w' => e = .returned (.int .i64 (fillC s p f)) ∧ Below w.heap.size w w' := by
  have hc : (w.alloc (.cells #[.int .i64 0, .int .i64 12, .int .i64 10, .int .i64 6, .int .i64 15, .int .i64 3, .int .i64 5, .int .i64 9, .int .i64 14, .int .i64 2, .int .i64 4, .int .i64 8, .int .i64 1, .int .i64 13, .int .i64 11, .int .i64 7] 143)).cell? ⟨w.heap.size, (8 * p + 4 * f + s).toNat, none⟩ = some (.int .i64 (fillC s p f)) :=
    cell_new w fillA 143 _ _ (fillA_at s p f h0 h1 h2 h3 h4 h5)
  go_enter Tryz.func102, Tryz.ntmps102
  go_wp2
  go_ret
  exact ⟨rfl, (Below.refl _ _).alloc (Nat.le_refl _) _⟩
end Go.Proofs.YtiodikflmijhkaaGreatDoor
/- The contract of the model's word of a message. -/
namespace Go.Proofs.YtiodikflmijhkaaGreatDoor
open Go.RowKit
set_option linter.unusedVariables false

set_option maxHeartbeats 1000000 in
theorem l3Of_calls (m : Int) (w : World) (h0 : 0 ≤ m) (h1 : m ≤ 4095) :
    Calls Tryz.prog 62 #[.int .i64 m] w fun e w' => e = .returned (.int .i64 (codeOf m)) ∧ Below w.heap.size w w' := by
  go_enter Tryz.func62, Tryz.ntmps62
  go_wp2_with (go_at_call 34; refine (l2Of_calls _ _ _ _ (by omega) (by omega) (by omega) (by omega) (by omega) (by omega)).mono ?_; rintro e w1 ⟨v, rfl, ho, hb⟩)
  have hrow := hexRow_range (m % 4) (m / 4 % 4) (m / 16 % 4) (by omega) (by omega) (by omega) (by omega) (by omega) (by omega)
  have h30 : (hexRow (m % 4) (m / 4 % 4) (m / 16 % 4)).getD 0 0 = m % 4 := rfl
  have hlen : (hexRow (m % 4) (m / 4 % 4) (m / 16 % 4)).length = 6 := rfl
  have HF := Lib.hid (show codeOf m = (ofTo (hexRow (m % 4) (m / 4 % 4) (m / 16 % 4)) m 5).1 + fillC (m % 4) (m / 64 % 2) (xorI (ofTo (hexRow (m % 4) (m / 4 % 4) (m / 16 % 4)) m 5).2 (m / 64 % 2)) from rfl)
  generalize hexRow (m % 4) (m / 4 % 4) (m / 16 % 4) = row at *
  obtain ⟨g, cap, rfl, hg⟩ : ∃ g cap, v = .slice (some ⟨g, 0, none⟩) 6 cap ∧ w.heap.size ≤ g := by
    rcases ho.form with ⟨_, h⟩ | ⟨g, cap, h, h2, _⟩
    · subst h; cases hlen
    · rw [hlen] at h; exact ⟨g, cap, h, h2⟩
  have HO := Lib.hid ho
  have HB := Lib.hid hb
  have HR := Lib.hid hrow
  have HL := Lib.hid hlen
  have H0 := Lib.hid h30
  clear ho hb hrow hlen h30
  go_loopw [5, 6, 7, 8] (fun p t c _ wr => ∃ j : Nat, j ≤ 5 ∧ c = .int .i64 ((j : Int) + 1) ∧ p = .int .i64 (ofTo row m j).1 ∧ t = .int .i64 (ofTo row m j).2 ∧ Hid (Own wr w.heap.size (.slice (some ⟨g, 0, none⟩) 6 cap) row) ∧ Hid (Below w.heap.size w wr)) (fun _ _ c _ _ => 6 - (intOf c).toNat)
  case atStart => exact ⟨0, by omega, rfl, rfl, rfl, HO, HB⟩
  case round =>
    obtain ⟨j, hj, rfl, rfl, rfl, ho, hb⟩ := hrel
    clear HO HB
    have hr := ofTo_range row m HR.out j hj
    have hpl := ofTo_le row m HR.out j hj
    by_cases hlt : j < 5
    · have hc := ho.out.cell (j := j + 1) (by have := HL.out; omega)
      have hd := HR.out (j + 1)
      have HS1 := Lib.hid (show (ofTo row m (j + 1)).1 = (ofTo row m j).1 + fillC (row.getD (j + 1) 0) (m / 64 % 2) (bitI m (6 + ((j : Int) + 1))) * 2 ^ (4 * (j + 1)) from rfl)
      have HS2 := Lib.hid (show (ofTo row m (j + 1)).2 = xorI (ofTo row m j).2 (bitI m (6 + ((j : Int) + 1))) from rfl)
      generalize (ofTo row m j).1 = p at *
      generalize (ofTo row m j).2 = t at *
      generalize row.getD (j + 1) 0 = d at *
      have hb0 := bitI_nonneg m (6 + ((j : Int) + 1))
      have hb1 := bitI_le m (6 + ((j : Int) + 1))
      have hbt : bits .and .i64 (m / 2 ^ (6 + (j + 1))) 1 = bitI m (6 + ((j : Int) + 1)) := by
        rw [and1_i64]; unfold bitI; rw [show (6 + ((j : Int) + 1)).toNat = 6 + (j + 1) by omega]
      have htb : bits .xor .i64 t (bitI m (6 + ((j : Int) + 1))) = xorI t (bitI m (6 + ((j : Int) + 1))) := xor_i64 _ _ hr.2.2.1 (by omega) hb0 (by omega)
      have hfr := fillC_range d (m / 64 % 2) (bitI m (6 + ((j : Int) + 1))) hd.1 hd.2 (by omega) (by omega) hb0 hb1
      go_wp2_with (go_at_call 102; refine (l3Fill_calls _ _ _ _ (by omega) (by omega) (by omega) (by omega) (by omega) (by omega)).mono ?_; rintro e w2 ⟨rfl, hb2⟩)
      have hsh := fill_shift _ j hlt hfr.1 hfr.2
      have hw1 : wrap64 (p + wrap64 (fillC d (m / 64 % 2) (bitI m (6 + ((j : Int) + 1))) * 2 ^ (4 * (j + 1)))) = (ofTo row m (j + 1)).1 := by
        rw [HS1.out, IntWalk.wrap64_in (fillC d (m / 64 % 2) (bitI m (6 + ((j : Int) + 1))) * 2 ^ (4 * (j + 1))) (by omega)]
        exact IntWalk.wrap64_in _ (by omega)
      go_roundw
      case rel => exact ⟨j + 1, by omega, by go_num, by rw [hw1], by rw [HS2.out], Lib.hid (ho.out.below hb2), Lib.hid (hb.out.trans (hb2.mono hb.out.size))⟩
      case measure => simp [intOf]; omega
    · obtain rfl : j = 5 := by omega
      have hc := ho.out.cell (j := 0) (by have := HL.out; omega)
      rw [H0.out] at hc
      have x1 : bits .xor .i64 (ofTo row m 5).2 (m / 64 % 2) = xorI (ofTo row m 5).2 (m / 64 % 2) := xor_i64 _ _ hr.2.2.1 (by omega) (by omega) (by omega)
      have hx0 := xorI_nonneg (ofTo row m 5).2 (m / 64 % 2)
      have hx1 := xorI_lt2 (ofTo row m 5).2 (m / 64 % 2) hr.2.2.2 (by omega)
      have hfr := fillC_range (m % 4) (m / 64 % 2) (xorI (ofTo row m 5).2 (m / 64 % 2)) (by omega) (by omega) (by omega) (by omega) hx0 hx1
      go_wp2_with (go_at_call 102; refine (l3Fill_calls _ _ _ _ (by omega) (by omega) (by omega) (by omega) (by omega) (by omega)).mono ?_; rintro e w2 ⟨rfl, hb2⟩)
      go_ret
      exact ⟨ret_i (by rw [HF.out]), hb.out.trans (hb2.mono hb.out.size)⟩
end Go.Proofs.YtiodikflmijhkaaGreatDoor
/- Contracts of the reader of drawn bytes: opening it, one pick. -/
namespace Go.Proofs.YtiodikflmijhkaaGreatDoor
open Go.RowKit
set_option linter.unusedVariables false

/-- A reader at block g, q bytes read so far. -/
def Rd (w : World) (g : Nat) (q : Nat) : Prop :=
  ∃ (A : Option Addr) (c : Nat) (bs : List Int), w.heap[g]? = some (.cells #[.slice A bs.length c, .int .i64 q] 48 (0, 0)) ∧ bs.length ≤ 2000 ∧ Rds w g .u8 A bs ∧ ∀ i, 0 ≤ bs.getD i 0 ∧ bs.getD i 0 ≤ 255
theorem Rd.lt {w : World} {g q : Nat} (h : Rd w g q) : g < w.heap.size := by
  obtain ⟨A, c, bs, h1, _⟩ := h
  exact (Array.getElem?_eq_some_iff.1 h1).1
/-- What else is done leaves the reader as it is, if block g and those below are left alone. -/
theorem Rd.keep {w w' : World} {g q : Nat} (h : Rd w g q) (hb : Below (g + 1) w w') : Rd w' g q := by
  obtain ⟨A, c, bs, h1, h2, h3, h4⟩ := h
  exact ⟨A, c, bs, (hb.block g (by omega)).trans h1, h2, h3.below (hb.mono (by omega)), h4⟩
theorem Rd.below {w w' : World} {g q : Nat} (h : Rd w g q) (hb : Below w.heap.size w w') : Rd w' g q := h.keep (hb.mono h.lt)

theorem xorShift_range (x : Int) (h0 : 0 ≤ x) (h1 : x < 2147483648) : 0 ≤ bits .xor .i64 x (x / 64) := by
  rw [xor_i64 x (x / 64) h0 h1 (by omega) (by omega)]; exact xorI_nonneg _ _

set_option maxHeartbeats 2000000 in
theorem pick_calls (g q : Nat) (n : Int) (w : World) (h : Rd w g q) (hq : q ≤ 1048576) (h0 : 1 ≤ n) (h1 : n ≤ 1048576) :
    Calls Tryz.prog 26 #[.pointer (some ⟨g, 0, none⟩), .int .i64 n] w fun e w' => ∃ v : Int, e = .returned (.int .i64 v) ∧ 0 ≤ v ∧ v < n ∧ Rd w' g (q + 1) ∧ w.grownBy w' (some g) := by
  obtain ⟨A, c, bs, hbk, hn, hr, hby⟩ := h
  have hlt : g < w.heap.size := (Array.getElem?_eq_some_iff.1 hbk).1
  have c0 : w.cell? ⟨g, 0, none⟩ = some (.slice A bs.length c) := by rw [Lib.cell_of_heap hbk]; rfl
  have c1 : w.cell? ⟨g, 1, none⟩ = some (.int .i64 q) := by rw [Lib.cell_of_heap hbk]; rfl
  have f1 : w.frozen? ⟨g, 1, none⟩ = false := Lib.frozen_of_heap hbk 1
  have HG : ∀ k, Rd ((w.setCell ⟨g, 1, none⟩ (.int .i64 ((q : Int) + 1))).drewN k) g (q + 1) ∧ w.grownBy ((w.setCell ⟨g, 1, none⟩ (.int .i64 ((q : Int) + 1))).drewN k) (some g) := by
    intro k
    refine ⟨⟨A, c, bs, ?_, hn, (hr.setCell (p := ⟨g, 1, none⟩) (Nat.le_refl _) _).drewN k, hby⟩, ⟨rfl, rfl, rfl, by simp, fun i hi hne => ?_⟩⟩
    · have := heap_setCell_same w g 1 #[.slice A bs.length c, .int .i64 q] 48 (.int .i64 ((q : Int) + 1)) hbk
      simpa using this
    · exact Below.heap_setCell w ⟨g, 1, none⟩ _ i (fun e => hne (by rw [e]))
  have HG' := Lib.hid HG
  clear HG hbk
  by_cases hz : bs.length = 0
  · have e0 : ((bs.length : Int) == 0) = true := by simp [hz]
    have n0 : decide (n < 1) = false := by simp; omega
    clear hz hr
    go_enter Tryz.func26, Tryz.ntmps26
    go_wp2
    go_ret
    exact ⟨0, rfl, by omega, by omega, HG'.out 0⟩
  · have hpos : 0 < bs.length := by omega
    have e0 : ((bs.length : Int) == 0) = false := beq_eq_false_iff_ne.2 (by omega)
    obtain ⟨b, o, rfl, hbg, hcell⟩ : ∃ b o, A = some ⟨b, o, none⟩ ∧ b < g ∧ ∀ j, j < bs.length → w.cell? ⟨b, o + j, none⟩ = some (.int .u8 (bs.getD j 0)) := by
      rcases hr with rfl | h
      · simp at hpos
      · exact h
    have hcell' : ∀ j, j < bs.length → (w.setCell ⟨g, 1, none⟩ (.int .i64 ((q : Int) + 1))).cell? ⟨b, o + j, none⟩ = some (.int .u8 (bs.getD j 0)) := fun j hj =>
      (World.cell?_setCell_other w ⟨g, 1, none⟩ ⟨b, o + j, none⟩ _ (fun e => by simp only [Addr.mk.injEq] at e; omega)).trans (hcell j hj)
    have HC := Lib.hid hcell'
    have HY := Lib.hid hby
    clear hcell hcell' hr hz hby
    by_cases hk : q < bs.length
    · have cb := HC.out q hk
      have hy := HY.out q
      generalize bs.getD q 0 = y at *
      have hm0 : 0 ≤ y % n := Int.emod_nonneg _ (by omega)
      have hm1 : y % n < n := Int.emod_lt_of_pos _ (by omega)
      go_enter Tryz.func26, Tryz.ntmps26
      go_wp2
      go_ret
      exact ⟨_, rfl, hm0, hm1, HG'.out 0⟩
    · have i1 : q % bs.length < bs.length := Nat.mod_lt _ hpos
      have i2 : (q * 7 + 3) % bs.length < bs.length := Nat.mod_lt _ hpos
      have cb1 := HC.out _ i1
      have cb2 := HC.out _ i2
      have hy1 := HY.out (q % bs.length)
      have hy2 := HY.out ((q * 7 + 3) % bs.length)
      generalize bs.getD (q % bs.length) 0 = y1 at *
      generalize bs.getD ((q * 7 + 3) % bs.length) 0 = y2 at *
      have hd0 : 0 ≤ (q : Int) / bs.length := Int.ediv_nonneg (by omega) (by omega)
      have hd1 : (q : Int) / bs.length ≤ q := Int.ediv_le_self _ (by omega)
      have hm1 : 0 ≤ (q : Int) % bs.length ∧ (q : Int) % bs.length < bs.length := ⟨Int.emod_nonneg _ (by omega), Int.emod_lt_of_pos _ (by omega)⟩
      have hm2 : 0 ≤ ((q : Int) * 7 + 3) % bs.length ∧ ((q : Int) * 7 + 3) % bs.length < bs.length := ⟨Int.emod_nonneg _ (by omega), Int.emod_lt_of_pos _ (by omega)⟩
      have g1 : 1 ≤ bs.length := hpos
      go_enter Tryz.func26, Tryz.ntmps26
      go_wp2
      go_quiet (fail)
      go_wp2
      go_ret
      refine ⟨_, rfl, ?_, ?_, HG'.out _⟩
      all_goals rw [Int.tmod_eq_emod_of_nonneg (xorShift_range _ (by omega) (by omega))]
      · exact Int.emod_nonneg _ (by omega)
      · exact Int.emod_lt_of_pos _ (by omega)

theorem below_grown {w w' : World} (h : Below w.heap.size w w') (row : Option Nat) : w.grownBy w' row := ⟨h.os, h.tape, h.output, h.size, fun k hk _ => h.block k hk⟩
theorem grown_below {w w' : World} {g B : Nat} (h : w.grownBy w' (some g)) (hB : B ≤ g) (hs : B ≤ w.heap.size) : Below B w w' := (Below.refl _ _).grown h hs (by intro k hk; simp at hk; omega)

theorem l6Open_calls (A : Option Addr) (c : Nat) (bs : List Int) (w : World) (hr : Rds w w.heap.size .u8 A bs) (hc : bs.length ≤ c) (hm : c ≤ maxLen) (hv : ∀ i, 0 ≤ bs.getD i 0 ∧ bs.getD i 0 ≤ 255) :
    Calls Tryz.prog 12 #[.slice A bs.length c] w fun e w' => ∃ g, e = .returned (.pointer (some ⟨g, 0, none⟩)) ∧ w.heap.size ≤ g ∧ Rd w' g 0 ∧ Below w.heap.size w w' := by
  unfold maxLen at hm
  by_cases hbig : 2000 < bs.length
  · have HR := Lib.hid hr
    have HV := Lib.hid hv
    clear hr hv
    go_enter Tryz.func12, Tryz.ntmps12
    go_wp2
    go_ret
    have hl : (bs.take 2000).length = 2000 := by simp; omega
    refine ⟨_, rfl, Nat.le_refl _, ⟨A, c, bs.take 2000, ?_, by omega, ?_, ?_⟩, (Below.refl _ _).alloc (Nat.le_refl _) _⟩
    · rw [hl]; exact heap_alloc_new w _
    · exact (HR.out.take 2000).alloc (Nat.le_refl _) _
    · intro i
      have := HV.out i
      by_cases hi : i < 2000
      · simpa [List.getElem?_take, hi] using this
      · simp [List.getElem?_take, hi]
  · have HR := Lib.hid hr
    have HV := Lib.hid hv
    clear hr hv
    go_enter Tryz.func12, Tryz.ntmps12
    go_wp2
    go_ret
    exact ⟨_, rfl, Nat.le_refl _, ⟨A, c, bs, heap_alloc_new w _, by omega, HR.out.alloc (Nat.le_refl _) _, HV.out⟩, (Below.refl _ _).alloc (Nat.le_refl _) _⟩
end Go.Proofs.YtiodikflmijhkaaGreatDoor
/- Contracts of drawing words. -/
namespace Go.Proofs.YtiodikflmijhkaaGreatDoor
open Go.RowKit
set_option linter.unusedVariables false

theorem l91Code_calls (g q : Nat) (w : World) (h : Rd w g q) (hq : q ≤ 1000000) :
    Calls Tryz.prog 30 #[.pointer (some ⟨g, 0, none⟩)] w fun e w' => ∃ v : Int, e = .returned (.int .i64 v) ∧ 0 ≤ v ∧ v ≤ 16777215 ∧ Rd w' g (q + 2) ∧ w.grownBy w' (some g) := by
  go_enter Tryz.func30, Tryz.ntmps30
  go_wp2_with fail
  refine (pick_calls g q 64 _ h (by omega) (by omega) (by omega)).mono ?_
  rintro e w1 ⟨a, rfl, a0, a1, r1, g1⟩
  go_wp2_with fail
  refine (pick_calls g (q + 1) 64 _ r1 (by omega) (by omega) (by omega)).mono ?_
  rintro e w2 ⟨b, rfl, b0, b1, r2, g2⟩
  go_wp2_with fail
  refine (l3Of_calls _ _ (by omega) (by omega)).mono ?_
  rintro e w3 ⟨rfl, hb⟩
  go_wp2_with fail
  go_ret
  have := codeOf_range (a + 64 * b)
  exact ⟨_, rfl, this.1, this.2, r2.below hb, grown_trans g1 (grown_trans g2 (below_grown hb _))⟩
set_option maxHeartbeats 2000000 in
theorem l91Word_calls (g q : Nat) (w : World) (h : Rd w g q) (hq : q ≤ 900000) :
    Calls Tryz.prog 58 #[.pointer (some ⟨g, 0, none⟩)] w fun e w' => ∃ (v : Int) (q' : Nat), e = .returned (.int .i64 v) ∧ -1 ≤ v ∧ v ≤ 16777216 ∧ q' ≤ q + 20 ∧ Rd w' g q' ∧ w.grownBy w' (some g) := by
  go_enter Tryz.func58, Tryz.ntmps58
  go_wp2_with fail
  refine (pick_calls g q 20 _ h (by omega) (by omega) (by omega)).mono ?_
  rintro e w1 ⟨a, rfl, a0, a1, r1, g1⟩
  by_cases h0 : a = 0
  · subst h0
    go_wp2_with fail
    go_ret
    exact ⟨_, _, rfl, by omega, by omega, by omega, r1, g1⟩
  · have e0 : (a == 0) = false := by simpa using h0
    by_cases h1 : a = 1
    · subst h1
      go_wp2_with fail
      go_ret
      exact ⟨_, _, rfl, by omega, by omega, by omega, r1, g1⟩
    · have e1 : (a == 1) = false := by simpa using h1
      by_cases h2 : a = 2
      · subst h2
        go_wp2_with fail
        refine (pick_calls g _ 256 _ r1 (by omega) (by omega) (by omega)).mono ?_
        rintro e w2 ⟨b, rfl, b0, b1, r2, g2⟩
        go_wp2_with fail
        refine (pick_calls g _ 256 _ r2 (by omega) (by omega) (by omega)).mono ?_
        rintro e w3 ⟨c, rfl, c0, c1, r3, g3⟩
        go_wp2_with fail
        refine (pick_calls g _ 256 _ r3 (by omega) (by omega) (by omega)).mono ?_
        rintro e w4 ⟨d, rfl, d0, d1, r4, g4⟩
        go_wp2_with fail
        go_ret
        exact ⟨_, _, rfl, by omega, by omega, by omega, r4, grown_trans g1 (grown_trans g2 (grown_trans g3 g4))⟩
      · have e2 : (a == 2) = false := by simpa using h2
        clear h0 h1 h2
        go_wp2_with fail
        refine (l91Code_calls g _ _ r1 (by omega)).mono ?_
        rintro e w2 ⟨b, rfl, b0, b1, r2, g2⟩
        go_wp2_with fail
        refine (pick_calls g _ 6 _ r2 (by omega) (by omega) (by omega)).mono ?_
        rintro e w3 ⟨n, rfl, n0, n1, r3, g3⟩
        have HR := Lib.hid r3
        have HG := Lib.hid (grown_trans g1 (grown_trans g2 g3))
        clear r1 r2 r3 g1 g2 g3 h
        go_wp2_with fail
        go_loopw [3, 5] (fun t i wr => ∃ (k : Nat) (T : Int), (k : Int) ≤ n ∧ i = .int .i64 k ∧ t = .int .i64 T ∧ 0 ≤ T ∧ T ≤ 16777215 ∧ Hid (Rd wr g (q + 1 + 2 + 1 + k)) ∧ Hid (w.grownBy wr (some g))) (fun _ i _ => 6 - (intOf i).toNat)
        case atStart => exact ⟨0, b, by omega, rfl, rfl, b0, b1, HR, HG⟩
        case round =>
          obtain ⟨k, T, hk, rfl, rfl, hT0, hT1, hr, hg⟩ := hrel
          clear HR HG
          by_cases hlt : (k : Int) < n
          · go_wp2_with fail
            refine (pick_calls g _ 24 _ hr.out (by omega) (by omega) (by omega)).mono ?_
            rintro e w4 ⟨d, rfl, d0, d1, r4, g4⟩
            have p0 := powI_pos d
            have p1 := powI_le d d0 (by omega)
            have hx : bits .xor .i64 T (wrap64 (2 ^ d.toNat)) = xorI T (powI d) := by
              have : wrap64 (powI d) = powI d := IntWalk.wrap64_in _ (by omega)
              show bits .xor .i64 T (wrap64 (powI d)) = _
              rw [this]; exact xor_i64 _ _ hT0 (by omega) (by omega) (by omega)
            go_wp2_with fail
            go_roundw
            case rel => exact ⟨k + 1, xorI T (powI d), by omega, by go_num, by first | rfl | rw [hx], xorI_nonneg _ _, xorI_le _ _ hT1 (by omega), Lib.hid r4, Lib.hid (grown_trans hg.out g4)⟩
            case measure => simp [intOf]; omega
          · go_wp2_with fail
            go_ret
            exact ⟨T, rfl, by omega, by omega, q + 1 + 2 + 1 + k, by omega, hr.out, hg.out⟩
end Go.Proofs.YtiodikflmijhkaaGreatDoor
end

section
namespace Go.Proofs.YtiodikflmijhkaaGreatDoor
open Go.RowKit
set_option linter.unusedVariables false

theorem xor_u8 (a b : Int) (ha : IsD a) (hb : IsD b) : bits .xor .u8 a b = xorI a b := by
  obtain ⟨a, rfl⟩ := ha.fin; obtain ⟨b, rfl⟩ := hb.fin
  clear ha hb; revert a b; decide
theorem digit_add (a b : Int) (w : World) (ha : IsD a) (hb : IsD b) :
    Calls Tryz.prog 146 #[.int .u8 a, .int .u8 b] w fun e w' => e = .returned (.int .u8 (xorI a b)) ∧ w = w' := by
  have HF := Lib.hid (xor_u8 a b ha hb)
  go_enter Tryz.func146, Tryz.ntmps146
  go_wp2
  go_ret
  exact ⟨ret_i HF.out, rfl⟩
end Go.Proofs.YtiodikflmijhkaaGreatDoor
/- Contracts of rows of six digits, of the program: two rows read, a sum, a weight, a row as a list. -/
namespace Go.Proofs.YtiodikflmijhkaaGreatDoor
open Go.RowKit
set_option linter.unusedVariables false

theorem rowInfo : (Tryz.prog.info? 120).map (·.size) = some 6 := by kernel_rfl
theorem idx0 (v0 v1 v2 v3 v4 v5 : Value) (W : World) : (Instr.index 120 (.agg #[v0, v1, v2, v3, v4, v5]) (.int .i64 0)).run Tryz.prog W = .ok v0 W := by kernel_rfl
theorem idx1 (v0 v1 v2 v3 v4 v5 : Value) (W : World) : (Instr.index 120 (.agg #[v0, v1, v2, v3, v4, v5]) (.int .i64 1)).run Tryz.prog W = .ok v1 W := by kernel_rfl
theorem idx2 (v0 v1 v2 v3 v4 v5 : Value) (W : World) : (Instr.index 120 (.agg #[v0, v1, v2, v3, v4, v5]) (.int .i64 2)).run Tryz.prog W = .ok v2 W := by kernel_rfl
theorem idx3 (v0 v1 v2 v3 v4 v5 : Value) (W : World) : (Instr.index 120 (.agg #[v0, v1, v2, v3, v4, v5]) (.int .i64 3)).run Tryz.prog W = .ok v3 W := by kernel_rfl
theorem idx4 (v0 v1 v2 v3 v4 v5 : Value) (W : World) : (Instr.index 120 (.agg #[v0, v1, v2, v3, v4, v5]) (.int .i64 4)).run Tryz.prog W = .ok v4 W := by kernel_rfl
theorem idx5 (v0 v1 v2 v3 v4 v5 : Value) (W : World) : (Instr.index 120 (.agg #[v0, v1, v2, v3, v4, v5]) (.int .i64 5)).run Tryz.prog W = .ok v5 W := by kernel_rfl
end Go.Proofs.YtiodikflmijhkaaGreatDoor
/- Contracts of digits and rows, of the model; of the exported functions that go through no table. -/
namespace Go.Proofs.YtiodikflmijhkaaGreatDoor
open Go.RowKit
set_option linter.unusedVariables false

def rowB (xs : List Int) : Bool := decide (xs.length = 6) && xs.all fun n => decide (0 ≤ n ∧ n ≤ 3)
theorem rowB_iff (xs : List Int) : rowB xs = true ↔ IsRow6 xs := by
  simp [rowB, IsRow6, IsD]
theorem rowB_no (xs : List Int) : rowB xs = false ↔ ¬ IsRow6 xs := by
  rw [← rowB_iff]; simp
/-- A list and whether there is one, in memory of its own. -/
def GotL (w : World) (xs : List Int) (b : Bool) (e : Ending) (w' : World) : Prop := ∃ v, e = .returned (.tuple #[v, .bool b]) ∧ Own w' w.heap.size v xs ∧ Below w.heap.size w w'
theorem l2Digit_ok (n : Int) (w : World) (h : IsD n) :
    Calls Tryz.prog 137 #[.int .i64 n] w fun e w' => e = .returned (.bool true) ∧ w = w' := by
  go_enter Tryz.func137, Tryz.ntmps137
  go_wp2_with (go_at_call 44; refine (l6In_ok _ _ _ _ h.1 h.2).mono ?_; rintro e w' ⟨rfl, rfl⟩)
  go_ret
  exact ⟨rfl, rfl⟩
theorem l2Digit_no (n : Int) (w : World) (h : NoD n) :
    Calls Tryz.prog 137 #[.int .i64 n] w fun e w' => e = .returned (.bool false) ∧ w = w' := by
  go_enter Tryz.func137, Tryz.ntmps137
  go_wp2_with (go_at_call 44; refine (l6In_no _ _ _ _ h).mono ?_; rintro e w' ⟨rfl, rfl⟩)
  go_ret
  exact ⟨rfl, rfl⟩
theorem digits_step (xs : List Int) (k : Nat) (h : ∀ j, j < k → IsD (xs.getD j 0)) (hk : IsD (xs.getD k 0)) : ∀ j, j < k + 1 → IsD (xs.getD j 0) := by
  intro j hj
  by_cases e : j = k
  · subst e; exact hk
  · exact h j (by omega)
theorem digits_all (xs : List Int) (h : ∀ j, j < xs.length → IsD (xs.getD j 0)) : rowB xs = decide (xs.length = 6) := by
  have : (xs.all fun n => decide (0 ≤ n ∧ n ≤ 3)) = true := by
    rw [List.all_eq_true]
    intro x hx
    obtain ⟨j, hj, rfl⟩ := List.getElem_of_mem hx
    have := h j hj
    rw [List.getD_eq_getElem?_getD, List.getElem?_eq_getElem hj] at this
    simpa [IsD] using this
  unfold rowB
  rw [this, Bool.and_true]
theorem digits_no (xs : List Int) (k : Nat) (hk : k < xs.length) (h : NoD (xs.getD k 0)) : rowB xs = false := by
  rw [rowB_no]
  intro hr
  exact isD_not (hr.get k) h
set_option maxHeartbeats 400000 in
theorem l2Row_calls (A : Option Addr) (c : Nat) (xs : List Int) (w : World) (ha : Rds w w.heap.size .i64 A xs) (hx : xs.length ≤ maxLen) :
    Calls Tryz.prog 103 #[.slice A xs.length c] w fun e w' => e = .returned (.bool (rowB xs)) ∧ w = w' := by
  unfold maxLen at hx
  go_enter Tryz.func103, Tryz.ntmps103
  go_wp2
  go_loop [3] (fun i => ∃ k : Nat, k ≤ xs.length ∧ i = .int .i64 k ∧ Hid (∀ j, j < k → IsD (xs.getD j 0))) (fun i => xs.length - (intOf i).toNat)
  case atStart => exact ⟨0, Nat.zero_le _, rfl, Lib.hid (fun j hj => by omega)⟩
  case round =>
    obtain ⟨k, hk, rfl, hd⟩ := hrel
    by_cases hlt : k < xs.length
    · obtain ⟨b1, o1, rfl, _, c1⟩ := ha.at_ hlt
      have HS := Lib.hid (digits_step xs k hd.out)
      have HN := Lib.hid (digits_no xs k hlt)
      clear hd
      generalize xs.getD k 0 = x at *
      rcases isD_or x with h | h
      · have HS' := Lib.hid (HS.out h)
        clear HS HN
        go_wp2_with (go_at_call 137; refine (l2Digit_ok _ _ h).mono ?_; rintro e w' ⟨rfl, rfl⟩)
        go_round
        case rel => exact ⟨k + 1, by omega, by go_num, HS'⟩
        case measure => simp [intOf]; omega
      · have HN' := Lib.hid (HN.out h)
        clear HS HN
        go_wp2_with (go_at_call 137; refine (l2Digit_no _ _ h).mono ?_; rintro e w' ⟨rfl, rfl⟩)
        go_ret
        exact ⟨ret_b HN'.out.symm, rfl⟩
    · have HD := Lib.hid (digits_all xs (fun j hj => hd.out j (by omega)))
      clear hd
      go_wp2
      go_ret
      refine ⟨ret_b ?_, rfl⟩
      rw [HD.out]
      first | rfl | (rw [Bool.eq_iff_iff]; simp; omega)
end Go.Proofs.YtiodikflmijhkaaGreatDoor
/- Contracts of the sum of two rows, of the program and of its model. -/
namespace Go.Proofs.YtiodikflmijhkaaGreatDoor
open Go.RowKit
set_option linter.unusedVariables false

theorem own_empty2 (w : World) (B : Nat) (hB : B ≤ w.heap.size) : Own (w.alloc (.cells #[] 3)) B (.slice (some ⟨w.heap.size, 0, none⟩) 0 0) [] :=
  ⟨rfl, .inr ⟨w.heap.size, 0, _, rfl, hB, heap_alloc_new w _, by simp, by unfold maxLen; omega, by simp, by simp [vals]⟩⟩
end Go.Proofs.YtiodikflmijhkaaGreatDoor
end

section
namespace Go.Proofs.YtiodikflmijhkaaGreatDoor
open Go.RowKit
set_option linter.unusedVariables false

def prodRows : List (List Int) := [[0, 0, 0, 0], [0, 1, 2, 3], [0, 2, 3, 1], [0, 3, 1, 2]]
def prodT : List Int := [0, 0, 0, 0, 0, 1, 2, 3, 0, 2, 3, 1, 0, 3, 1, 2]
def prodG : Nat := 2
/-- The table of products in memory. -/
def TabP (w : World) : Prop := ∀ j, j < 16 → w.cell? ⟨2, j, none⟩ = some (.int .u8 (prodT.getD j 0))
theorem TabP.below {w w' : World} {B : Nat} (h : TabP w) (hb : Below B w w') (h0 : prodG < B) : TabP w' := fun j hj => (hb.cell (p := ⟨2, j, none⟩) h0).trans (h j hj)
theorem TabP.lt {w : World} (h : TabP w) : prodG < w.heap.size := World.block_lt_of_cell? w ⟨2, 0, none⟩ (h 0 (by decide))
theorem TabP.drewN {w : World} (h : TabP w) (k : Nat) : TabP (w.drewN k) := h
theorem TabP.alloc {w : World} (h : TabP w) (o : Obj) : TabP (w.alloc o) := h.below ((Below.refl _ _).alloc (Nat.le_refl _) o) h.lt
theorem prodT_all : ∀ a b : Fin 4, prodT.getD (4 * a.val + b.val) 0 = mulD (a.val : Int) (b.val : Int) := by decide
theorem digit_times (a b : Int) (w : World) (ha : IsD a) (hb : IsD b) (hT : TabP w) :
    Calls Tryz.prog 144 #[.int .u8 a, .int .u8 b] w fun e w' => e = .returned (.int .u8 (mulD a b)) ∧ w = w' := by
  obtain ⟨a, rfl⟩ := ha.fin
  obtain ⟨b, rfl⟩ := hb.fin
  have hp := prodT_all a b
  have hc := hT (4 * a.val + b.val) (by omega)
  rw [hp] at hc
  have hc' : w.cell? ⟨2, a.val * 4 + b.val, none⟩ = some (.int .u8 (mulD (a.val : Int) (b.val : Int))) := by rw [Nat.mul_comm]; exact hc
  have ha' := a.isLt
  have hb' := b.isLt
  obtain ⟨A, hA⟩ := a
  obtain ⟨B, hB⟩ := b
  generalize mulD _ _ = m at *
  simp only at *
  clear hp ha hb hT
  go_enter Tryz.func144, Tryz.ntmps144
  go_wp2
  go_ret
  exact ⟨rfl, rfl⟩
theorem digit_mirror (a : Int) (w : World) (ha : IsD a) (hT : TabP w) :
    Calls Tryz.prog 145 #[.int .u8 a] w fun e w' => e = .returned (.int .u8 (sq a)) ∧ w = w' := by
  go_enter Tryz.func145, Tryz.ntmps145
  go_wp2_with (go_at_call 144; refine (digit_times _ _ _ ha ha hT).mono ?_; rintro e w' ⟨rfl, rfl⟩)
  go_ret
  exact ⟨rfl, rfl⟩
set_option maxHeartbeats 2000000 in
theorem hexRowOf_calls (a b c : Int) (w : World) (ha : IsD a) (hb : IsD b) (hc : IsD c) (hT : TabP w) :
    Calls Tryz.prog 129 #[.int .u8 a, .int .u8 b, .int .u8 c] w fun r w' => r = .returned (.agg #[.int .u8 a, .int .u8 b, .int .u8 c, .int .u8 (hexF a b c 1), .int .u8 (hexF a b c 2), .int .u8 (hexF a b c 3)]) ∧ Below w.heap.size w w' := by
  have e1 : hexF a b c 1 = xorI (xorI (mulD a (sq 1)) (mulD b 1)) c := rfl
  have e2 : hexF a b c 2 = xorI (xorI (mulD a (sq 2)) (mulD b 2)) c := rfl
  have e3 : hexF a b c 3 = xorI (xorI (mulD a (sq 3)) (mulD b 3)) c := rfl
  have D1 : IsD 1 := ⟨by omega, by omega⟩
  have D2 : IsD 2 := ⟨by omega, by omega⟩
  have D3 : IsD 3 := ⟨by omega, by omega⟩
  rw [e1, e2, e3]
  clear e1 e2 e3
  go_enter Tryz.func129, Tryz.ntmps129
  go_wp2
  refine wp_loop_rounds 4 ?_
  iterate 4 (rw [rounds_succ]; go_wp2_with (first
    | (go_at_call 145; refine (digit_mirror _ _ (by repeat (first | assumption | apply sq_d | apply mulD_d | apply xorI_d)) (by repeat (first | assumption | apply TabP.alloc))).mono ?_; rintro e w' ⟨rfl, rfl⟩)
    | (go_at_call 144; refine (digit_times _ _ _ (by repeat (first | assumption | apply sq_d | apply mulD_d | apply xorI_d)) (by repeat (first | assumption | apply sq_d | apply mulD_d | apply xorI_d)) (by repeat (first | assumption | apply TabP.alloc))).mono ?_; rintro e w' ⟨rfl, rfl⟩)
    | (go_at_call 146; refine (digit_add _ _ _ (by repeat (first | assumption | apply sq_d | apply mulD_d | apply xorI_d)) (by repeat (first | assumption | apply sq_d | apply mulD_d | apply xorI_d))).mono ?_; rintro e w' ⟨rfl, rfl⟩)))
  exact bodyPost_ret (v := .agg #[.int .u8 a, .int .u8 b, .int .u8 c, .int .u8 (xorI (xorI (mulD a (sq 1)) (mulD b 1)) c), .int .u8 (xorI (xorI (mulD a (sq 2)) (mulD b 2)) c), .int .u8 (xorI (xorI (mulD a (sq 3)) (mulD b 3)) c)]) (by simp [results, Tryz.results129, go_sem]) rfl ⟨rfl, ((Below.refl _ _).alloc (Nat.le_refl _) _).alloc (by simp) _⟩
end Go.Proofs.YtiodikflmijhkaaGreatDoor
/- Contracts of what the program asks of rows: whether they are in the hexacode, inner products, the nearest row. -/
namespace Go.Proofs.YtiodikflmijhkaaGreatDoor
open Go.RowKit
set_option linter.unusedVariables false

theorem quiet_left {P : Program} {f : FuncId} {args : Array Value} {w : World} {n : Nat} {v : Value}
    (h : Calls P f args (w.drewN n) fun e w' => e = .returned v ∧ w.drewN n = w') : Calls P f args (w.drewN n) fun e w'' => e = .returned v ∧ ∃ m, w'' = w.drewN m :=
  h.mono fun _ _ ⟨he, hm⟩ => ⟨he, n, hm.symm⟩
end Go.Proofs.YtiodikflmijhkaaGreatDoor
/- Contracts of the exported functions of chapter 2 that go through the table. -/
namespace Go.Proofs.YtiodikflmijhkaaGreatDoor
open Go.RowKit
set_option linter.unusedVariables false

def hIn (xs : List Int) : Bool := rowB xs && hexB xs
end Go.Proofs.YtiodikflmijhkaaGreatDoor
end
