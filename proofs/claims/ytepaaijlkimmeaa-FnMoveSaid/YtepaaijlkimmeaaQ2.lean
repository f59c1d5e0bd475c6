import Derived.Test.YtepaaijlkimmeaaQ1
import Derived.Test.YtepaaijlkimmeaaP0
import Derived.Test.YtepaaijlkimmeaaP1
import Derived.Lib.Builder
/- Contracts of the model's hexacode rows and words of messages. -/
namespace Go.Proofs.Ytepaaijlkimmeaa
open Go.RowKit
set_option linter.unusedVariables false

end Go.Proofs.Ytepaaijlkimmeaa
/- The contract of the model's word of a message. -/
namespace Go.Proofs.Ytepaaijlkimmeaa
open Go.RowKit
set_option linter.unusedVariables false

end Go.Proofs.Ytepaaijlkimmeaa
/- Contracts of the reader of drawn bytes: opening it, one pick. -/
namespace Go.Proofs.Ytepaaijlkimmeaa
open Go.RowKit
set_option linter.unusedVariables false

/-- A reader at block g, q bytes read so far. -/
def Rd (w : World) (g : Nat) (q : Nat) : Prop :=
  ∃ (A : Option Addr) (c : Nat) (bs : List Int), w.heap[g]? = some (.cells #[.slice A bs.length c, .int .i64 q] 56 (0, 0)) ∧ bs.length ≤ 2000 ∧ Rds w g .u8 A bs ∧ ∀ i, 0 ≤ bs.getD i 0 ∧ bs.getD i 0 ≤ 255
theorem Rd.lt {w : World} {g q : Nat} (h : Rd w g q) : g < w.heap.size := by
  obtain ⟨A, c, bs, h1, _⟩ := h
  exact (Array.getElem?_eq_some_iff.1 h1).1
/-- What else is done leaves the reader as it is, if block g and those below are left alone. -/
theorem Rd.keep {w w' : World} {g q : Nat} (h : Rd w g q) (hb : Below (g + 1) w w') : Rd w' g q := by
  obtain ⟨A, c, bs, h1, h2, h3, h4⟩ := h
  exact ⟨A, c, bs, (hb.block g (by omega)).trans h1, h2, h3.below (hb.mono (by omega)), h4⟩
theorem Rd.below {w w' : World} {g q : Nat} (h : Rd w g q) (hb : Below w.heap.size w w') : Rd w' g q := h.keep (hb.mono h.lt)

theorem xorShift_range (x : Int) (h0 : 0 ≤ x) (h1 : x < 2147483648) : 0 ≤ bits .xor .i64 x (x / 64) := by
  rw [xor_i64 x (x / 64) h0 h1 (by omega) (by omega)]; exact xorI_nonneg _ _

set_option maxHeartbeats 2000000 in
theorem pick_calls (g q : Nat) (n : Int) (w : World) (h : Rd w g q) (hq : q ≤ 1048576) (h0 : 1 ≤ n) (h1 : n ≤ 1048576) :
    Calls Try.prog 19 #[.pointer (some ⟨g, 0, none⟩), .int .i64 n] w fun e w' => ∃ v : Int, e = .returned (.int .i64 v) ∧ 0 ≤ v ∧ v < n ∧ Rd w' g (q + 1) ∧ w.grownBy w' (some g) := by
  obtain ⟨A, c, bs, hbk, hn, hr, hby⟩ := h
  have hlt : g < w.heap.size := (Array.getElem?_eq_some_iff.1 hbk).1
  have c0 : w.cell? ⟨g, 0, none⟩ = some (.slice A bs.length c) := by rw [Lib.cell_of_heap hbk]; rfl
  have c1 : w.cell? ⟨g, 1, none⟩ = some (.int .i64 q) := by rw [Lib.cell_of_heap hbk]; rfl
  have f1 : w.frozen? ⟨g, 1, none⟩ = false := Lib.frozen_of_heap hbk 1
  have HG : ∀ k, Rd ((w.setCell ⟨g, 1, none⟩ (.int .i64 ((q : Int) + 1))).drewN k) g (q + 1) ∧ w.grownBy ((w.setCell ⟨g, 1, none⟩ (.int .i64 ((q : Int) + 1))).drewN k) (some g) := by
    intro k
    refine ⟨⟨A, c, bs, ?_, hn, (hr.setCell (p := ⟨g, 1, none⟩) (Nat.le_refl _) _).drewN k, hby⟩, ⟨rfl, rfl, rfl, by simp, fun i hi hne => ?_⟩⟩
    · have := heap_setCell_same w g 1 #[.slice A bs.length c, .int .i64 q] 56 (.int .i64 ((q : Int) + 1)) hbk
      simpa using this
    · exact Below.heap_setCell w ⟨g, 1, none⟩ _ i (fun e => hne (by rw [e]))
  have HG' := Lib.hid HG
  clear HG hbk
  by_cases hz : bs.length = 0
  · have e0 : ((bs.length : Int) == 0) = true := by simp [hz]
    have n0 : decide (n < 1) = false := by simp; omega
    clear hz hr
    go_enter Try.func19, Try.ntmps19
    go_wp2
    go_ret
    exact ⟨0, rfl, by omega, by omega, HG'.out 0⟩
  · have hpos : 0 < bs.length := by omega
    have e0 : ((bs.length : Int) == 0) = false := beq_eq_false_iff_ne.2 (by omega)
    obtain ⟨b, o, rfl, hbg, hcell⟩ : ∃ b o, A = some ⟨b, o, none⟩ ∧ b < g ∧ ∀ j, j < bs.length → w.cell? ⟨b, o + j, none⟩ = some (.int .u8 (bs.getD j 0)) := by
      rcases hr with rfl | h
      · simp at hpos
      · exact h
    have hcell' : ∀ j, j < bs.length → (w.setCell ⟨g, 1, none⟩ (.int .i64 ((q : Int) + 1))).cell? ⟨b, o + j, none⟩ = some (.int .u8 (bs.getD j 0)) := fun j hj =>
      (World.cell?_setCell_other w ⟨g, 1, none⟩ ⟨b, o + j, none⟩ _ (fun e => by simp only [Addr.mk.injEq] at e; omega)).trans (hcell j hj)
    have HC := Lib.hid hcell'
    have HY := Lib.hid hby
    clear hcell hcell' hr hz hby
    by_cases hk : q < bs.length
    · have cb := HC.out q hk
      have hy := HY.out q
      generalize bs.getD q 0 = y at *
      have hm0 : 0 ≤ y % n := Int.emod_nonneg _ (by omega)
      have hm1 : y % n < n := Int.emod_lt_of_pos _ (by omega)
      go_enter Try.func19, Try.ntmps19
      go_wp2
      go_ret
      exact ⟨_, rfl, hm0, hm1, HG'.out 0⟩
    · have i1 : q % bs.length < bs.length := Nat.mod_lt _ hpos
      have i2 : (q * 7 + 3) % bs.length < bs.length := Nat.mod_lt _ hpos
      have cb1 := HC.out _ i1
      have cb2 := HC.out _ i2
      have hy1 := HY.out (q % bs.length)
      have hy2 := HY.out ((q * 7 + 3) % bs.length)
      generalize bs.getD (q % bs.length) 0 = y1 at *
      generalize bs.getD ((q * 7 + 3) % bs.length) 0 = y2 at *
      have hd0 : 0 ≤ (q : Int) / bs.length := Int.ediv_nonneg (by omega) (by omega)
      have hd1 : (q : Int) / bs.length ≤ q := Int.ediv_le_self _ (by omega)
      have hm1 : 0 ≤ (q : Int) % bs.length ∧ (q : Int) % bs.length < bs.length := ⟨Int.emod_nonneg _ (by omega), Int.emod_lt_of_pos _ (by omega)⟩
      have hm2 : 0 ≤ ((q : Int) * 7 + 3) % bs.length ∧ ((q : Int) * 7 + 3) % bs.length < bs.length := ⟨Int.emod_nonneg _ (by omega), Int.emod_lt_of_pos _ (by omega)⟩
      have g1 : 1 ≤ bs.length := hpos
      go_enter Try.func19, Try.ntmps19
      go_wp2
      go_quiet (fail)
      go_wp2
      go_ret
      refine ⟨_, rfl, ?_, ?_, HG'.out _⟩
      all_goals rw [Int.tmod_eq_emod_of_nonneg (xorShift_range _ (by omega) (by omega))]
      · exact Int.emod_nonneg _ (by omega)
      · exact Int.emod_lt_of_pos _ (by omega)

theorem below_grown {w w' : World} (h : Below w.heap.size w w') (row : Option Nat) : w.grownBy w' row := ⟨h.os, h.tape, h.output, h.size, fun k hk _ => h.block k hk⟩
theorem grown_below {w w' : World} {g B : Nat} (h : w.grownBy w' (some g)) (hB : B ≤ g) (hs : B ≤ w.heap.size) : Below B w w' := (Below.refl _ _).grown h hs (by intro k hk; simp at hk; omega)

theorem l6Open_calls (A : Option Addr) (c : Nat) (bs : List Int) (w : World) (hr : Rds w w.heap.size .u8 A bs) (hc : bs.length ≤ c) (hm : c ≤ maxLen) (hv : ∀ i, 0 ≤ bs.getD i 0 ∧ bs.getD i 0 ≤ 255) :
    Calls Try.prog 18 #[.slice A bs.length c] w fun e w' => ∃ g, e = .returned (.pointer (some ⟨g, 0, none⟩)) ∧ w.heap.size ≤ g ∧ Rd w' g 0 ∧ Below w.heap.size w w' := by
  unfold maxLen at hm
  by_cases hbig : 2000 < bs.length
  · have HR := Lib.hid hr
    have HV := Lib.hid hv
    clear hr hv
    go_enter Try.func18, Try.ntmps18
    go_wp2
    go_ret
    have hl : (bs.take 2000).length = 2000 := by simp; omega
    refine ⟨_, rfl, Nat.le_refl _, ⟨A, c, bs.take 2000, ?_, by omega, ?_, ?_⟩, (Below.refl _ _).alloc (Nat.le_refl _) _⟩
    · rw [hl]; exact heap_alloc_new w _
    · exact (HR.out.take 2000).alloc (Nat.le_refl _) _
    · intro i
      have := HV.out i
      by_cases hi : i < 2000
      · simpa [List.getElem?_take, hi] using this
      · simp [List.getElem?_take, hi]
  · have HR := Lib.hid hr
    have HV := Lib.hid hv
    clear hr hv
    go_enter Try.func18, Try.ntmps18
    go_wp2
    go_ret
    exact ⟨_, rfl, Nat.le_refl _, ⟨A, c, bs, heap_alloc_new w _, by omega, HR.out.alloc (Nat.le_refl _) _, HV.out⟩, (Below.refl _ _).alloc (Nat.le_refl _) _⟩
end Go.Proofs.Ytepaaijlkimmeaa
/- Contracts of drawing words. -/
namespace Go.Proofs.Ytepaaijlkimmeaa
open Go.RowKit
set_option linter.unusedVariables false

end Go.Proofs.Ytepaaijlkimmeaa