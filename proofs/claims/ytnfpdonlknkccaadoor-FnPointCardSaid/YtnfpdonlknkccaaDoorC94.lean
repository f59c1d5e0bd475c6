/- Planes of the program: a line found in a plane, the common point of two lines. -/
import Derived.Test.YtnfpdonlknkccaaDoorC92
import Derived.Test.YtnfpdonlknkccaaDoorC10
import Derived.Test.YtnfpdonlknkccaaDoorC30
namespace Go.Proofs.YtnfpdonlknkccaaDoor
open Go.RowKit Go.Shelf
set_option linter.unusedVariables false
attribute [local irreducible] octS cN octF syn

theorem pl_pow (a : Nat) (h : a < 24) : (plI (2 ^ a)).getD 0 0 = (a : Int) := by
  have : ∀ a : Fin 24, (plI (2 ^ a.val)).getD 0 0 = (a.val : Int) := by decide
  exact this ⟨a, h⟩
theorem ctz_pow (a : Nat) (h : a < 24) : Lib.ctz 32 (2 ^ a) = a := by
  have : ∀ a : Fin 24, Lib.ctz 32 (2 ^ a.val) = a.val := by decide
  exact this ⟨a, h⟩
theorem not_in {L : List Int} {n : Int} (hw : ∀ j, j < L.length → IsW (L.getD j 0)) (h : wordB n = false) : L.contains n = false := by
  rw [Bool.eq_false_iff]
  intro hc
  rw [List.contains_iff_mem] at hc
  obtain ⟨j, hj, e⟩ := List.getElem_of_mem hc
  have := hw j hj
  rw [← getD_at _ j hj, e] at this
  rw [(wordB_iff n).2 this] at h
  cases h
set_option maxHeartbeats 1000000 in
theorem indexW (L : List Int) (hl : L.length = 21) (g : Nat) (t : TypeId) (v : Int) (w : World) (hg : w.heap[g]? = some (.cells (V21 L) t (0, 0))) :
    Calls Tryd.prog 47 #[.slice (some ⟨g, 0, none⟩) 21 21, .int .u32 v] w fun e w' => ∃ j : Int, e = .returned (.int .i64 j) ∧ decide (0 ≤ j) = L.contains v ∧ w = w' := by
  have HC := Lib.hid (fun k (hk : k < 21) => show w.cell? ⟨g, k, none⟩ = some (.int .u32 (L.getD k 0)) by
    have hk2 : k < L.length := by omega
    simp [World.cell?, hg, V21, hk2])
  have HY := Lib.hid (fun k (hk : k < 21) (e : v = L.getD k 0) => show L.contains v = true by
    rw [List.contains_iff_mem, e, ← getD_at _ k (by omega)]; exact List.getElem_mem _)
  have HN := Lib.hid (fun (h : ∀ j, j < 21 → v ≠ L.getD j 0) => show L.contains v = false by
    rw [Bool.eq_false_iff]
    intro hc
    rw [List.contains_iff_mem] at hc
    obtain ⟨j, hj, e⟩ := List.getElem_of_mem hc
    exact h j (by omega) (by rw [← getD_at _ j hj, e]))
  clear hg hl
  generalize L.contains v = c at *
  go_enter Tryd.func47, Tryd.ntmps47
  go_wp2_with fail
  go_loopw [8] (fun i wr => ∃ k : Nat, k ≤ 21 ∧ i = .int .i64 k ∧ Hid (wr = w ∧ ∀ j, j < k → v ≠ L.getD j 0)) (fun i _ => 21 - (intOf i).toNat)
  case atStart => exact ⟨0, by omega, rfl, Lib.hid ⟨rfl, fun j h => absurd h (by omega)⟩⟩
  case round =>
    obtain ⟨k, hk, rfl, hh⟩ := hrel
    obtain ⟨hw, hn⟩ := hh.out
    subst hw
    by_cases hlt : k < 21
    · have hc := HC.out k hlt
      have HY1 := Lib.hid (HY.out k hlt)
      have HN1 := Lib.hid (fun (h : v ≠ L.getD k 0) j (hj : j < k + 1) => show v ≠ L.getD j 0 by
        rcases (by omega : j < k ∨ j = k) with h1 | h1
        · exact hn j h1
        · rw [h1]; exact h)
      have hq1 : (0 : Int) ≤ (k : Int) := by omega
      have hq2 : (k : Int) < 21 := by omega
      clear hn hh
      generalize L.getD k 0 = x at *
      by_cases hx : v = x
      · have HD := Lib.hid (HY1.out hx)
        subst hx
        go_wp2_with fail
        go_ret
        exact ⟨_, rfl, by rw [HD.out]; simp, rfl⟩
      · have hxb : (v == x) = false := by simpa using hx
        have HD := Lib.hid (HN1.out hx)
        clear hx
        go_wp2_with fail
        go_roundw
        case rel => exact ⟨k + 1, by omega, by go_num, Lib.hid ⟨by first | exact rfl | trivial, HD.out⟩⟩
        case measure => simp [intOf]; omega
    · obtain rfl : k = 21 := by omega
      have HD := Lib.hid (HN.out hn)
      clear hn hh
      go_wp2_with fail
      go_ret
      exact ⟨_, rfl, by rw [HD.out]; simp, rfl⟩
theorem containsW (L : List Int) (hl : L.length = 21) (g : Nat) (t : TypeId) (v : Int) (w : World) (hg : w.heap[g]? = some (.cells (V21 L) t (0, 0))) :
    Calls Tryd.prog 38 #[.slice (some ⟨g, 0, none⟩) 21 21, .int .u32 v] w fun e w' => e = .returned (.bool (L.contains v)) ∧ w = w' := by
  have HI := Lib.hid (indexW L hl g t v w hg)
  clear hg hl
  generalize L.contains v = c at *
  go_enter Tryd.func38, Tryd.ntmps38
  go_wp2_with fail
  refine HI.out.mono ?_
  rintro e w' ⟨j, rfl, hj, rfl⟩
  rcases c with _ | _
  · have hj0 : ¬ (0 : Int) ≤ j := by simpa using hj
    clear hj
    go_wp2_with fail
    go_ret
    exact ⟨ret_b (decide_eq_false (by omega)), rfl⟩
  · have hj0 : (0 : Int) ≤ j := by simpa using hj
    clear hj
    go_wp2_with fail
    go_ret
    exact ⟨ret_b rfl, rfl⟩
set_option maxHeartbeats 1000000 in
theorem lineFrom_yes (L : List Int) (hl : L.length = 21) (hw : ∀ j, j < L.length → IsW (L.getD j 0)) (n : Int) (hc : L.contains n = true) (w : World) :
    Calls Tryd.prog 22 #[.agg (V21 L), .int .i64 n] w fun e w' => e = .returned (.tuple #[.int .u32 n, .bool true]) ∧ Below w.heap.size w w' := by
  have wn : IsW n := by
    rcases hb : wordB n with _ | _
    · rw [not_in hw hb] at hc; cases hc
    · exact (wordB_iff n).1 hb
  have HCN := Lib.hid (fun g t W h => containsW L hl g t n W h)
  rw [hc] at HCN
  clear hc hw hl
  generalize V21 L = V at *
  go_enter Tryd.func22, Tryd.ntmps22
  go_wp2_with (first
    | (go_at_call 19; refine (wordFrom_ok n _ wn.1 wn.2).mono ?_; rintro e w' ⟨rfl, rfl⟩)
    | (go_at_call 38; refine (HCN.out _ _ _ (Blk.new w _ _)).mono ?_; rintro e w' ⟨rfl, rfl⟩))
  go_ret2
  exact ⟨rfl, (Below.refl _ w).alloc (Nat.le_refl _) _⟩
set_option maxHeartbeats 1000000 in
theorem lineFrom_no (L : List Int) (hl : L.length = 21) (n : Int) (hc : L.contains n = false) (w : World) :
    Calls Tryd.prog 22 #[.agg (V21 L), .int .i64 n] w fun e w' => e = .returned (.tuple #[.int .u32 0, .bool false]) ∧ Below w.heap.size w w' := by
  have HCN := Lib.hid (fun g t W h => containsW L hl g t n W h)
  rw [hc] at HCN
  clear hc hl
  generalize V21 L = V at *
  rcases hb : wordB n with _ | _
  · have hn := (wordB_no n).1 hb
    clear hb
    go_enter Tryd.func22, Tryd.ntmps22
    go_wp2_with (go_at_call 19; refine (wordFrom_no n _ hn).mono ?_; rintro e w' ⟨rfl, rfl⟩)
    go_ret2
    exact ⟨rfl, (Below.refl _ w).alloc (Nat.le_refl _) _⟩
  · have wn := (wordB_iff n).1 hb
    clear hb
    go_enter Tryd.func22, Tryd.ntmps22
    go_wp2_with (first
      | (go_at_call 19; refine (wordFrom_ok n _ wn.1 wn.2).mono ?_; rintro e w' ⟨rfl, rfl⟩)
      | (go_at_call 38; refine (HCN.out _ _ _ (Blk.new w _ _)).mono ?_; rintro e w' ⟨rfl, rfl⟩))
    go_ret2
    exact ⟨rfl, (Below.refl _ w).alloc (Nat.le_refl _) _⟩
theorem onlyPlace_calls (a : Nat) (ha : a < 24) (w : World) (hT : TabB w) :
    Calls Tryd.prog 24 #[.int .u32 ((2 ^ a : Nat) : Int)] w fun e w' => e = .returned (.int .i64 (a : Int)) ∧ w = w' := by
  have hp : 2 ^ a < 16777216 := Nat.lt_of_lt_of_le (Nat.pow_lt_pow_right (by omega) ha) (by decide)
  have HT := Lib.hid (tz32_calls (2 ^ a) w (by have := Nat.two_pow_pos a; omega) hp hT)
  rw [ctz_pow a ha] at HT
  generalize 2 ^ a = x at *
  have hq : (x : Int) < 16777216 := by omega
  have hq0 : 0 ≤ (x : Int) := by omega
  go_enter Tryd.func24, Tryd.ntmps24
  go_wp2_with (go_at_call 39; refine HT.out.mono ?_; rintro e w' ⟨rfl, rfl⟩)
  go_ret
  exact ⟨rfl, rfl⟩
end Go.Proofs.YtnfpdonlknkccaaDoor
