/- Sorting a list that the call owns; the nearest words, of the program, with nothing left open. -/
import Derived.Test.YtongfkjlajmgfaaDoorC33
import Derived.Test.YtongfkjlajmgfaaDoorShelf
import Derived.Sort.OwnSortedInts
namespace Go.Proofs.YtongfkjlajmgfaaDoor
open Go.RowKit Go.Sort
set_option linter.unusedVariables false

theorem sort_own (V : World) (B : Nat) (v : Value) (L : List Int) (h : Own V B v L) (h0 : 0 < L.length) (hl : L.length ≤ 4096) :
    Calls Tryd.prog 57 #[v] V fun e W => e = .returned (.tuple #[]) ∧ Own W B v (L.mergeSort fun x y => decide (x ≤ y)) ∧ V.grownBy W v.ownBlock := by
  rcases h.2 with ⟨_, hz⟩ | ⟨g, cap, cur, rfl, hbase, hb, h1, h2, h3, h4⟩
  · omega
  refine (Tryd.slices_Sort_int g 0 cap L V (holds_of_blockI hb (by simpa [vals] using h4)) (Array.getElem?_eq_some_iff.1 hb).1 (by omega)).mono ?_
  rintro e W ⟨rfl, n, os, rfl⟩
  refine ⟨rfl, ?_, grownBy_sortedI _⟩
  have := ownsRow_sortedI (os := os) (n := n) (ts := L.mergeSort fun x y => decide (x ≤ y)) (ss := L) (by simp) hbase hb h1 h2 h3
  unfold Own vals
  rw [List.length_mergeSort]
  exact this
theorem own_at1 {w : World} {B : Nat} {v : Value} {xs : List Int} (h : Own w B v xs) (hp : 0 < xs.length) : ∃ g c, v = .slice (some ⟨g, 0, none⟩) xs.length c := by
  rcases h.form with ⟨_, h1⟩ | ⟨g, c, h1, _⟩
  · subst h1; simp at hp
  · exact ⟨g, c, h1⟩
theorem near_run (R : Int) (h0 : 0 ≤ R) (h1 : R ≤ 16777215) (w : World) (hT : Tab2 w) :
    Calls Tryd.prog 38 #[.int .u32 R] w fun e w' => ∃ v, e = .returned (.tuple #[v, .int .i64 (farI R)]) ∧ Own w' w.heap.size v (nearL R) ∧ Below w.heap.size w w' := by
  obtain ⟨r, rfl⟩ := Int.eq_ofNat_of_zero_le h0
  exact callsIn_wide.1 (near_in r (by omega) w hT sort_own)
theorem iCodeFar_calls (n : Int) (w : World) (hT : Tab2 w) :
    Calls Tryd.prog 13 #[.int .i64 n] w fun e w' => e = .returned (.int .i64 (cFar n)) ∧ Below w.heap.size w w' := by
  rcases hb : wordB n with _ | _
  · have hn := (wordB_no n).1 hb
    rw [show cFar n = -1 by simp [cFar, hb]]
    clear hb
    go_enter Tryd.func13, Tryd.ntmps13
    go_wp2_with (go_at_call 37; refine (wordFrom_no _ _ hn).mono ?_; rintro e w' ⟨rfl, rfl⟩)
    go_ret
    exact ⟨rfl, Below.refl _ _⟩
  · have hn := (wordB_iff n).1 hb
    rw [show cFar n = farI n by simp [cFar, hb]]
    clear hb
    go_enter Tryd.func13, Tryd.ntmps13
    go_wp2_with (first
      | (go_at_call 37; refine (wordFrom_ok _ _ hn.1 hn.2).mono ?_; rintro e w' ⟨rfl, rfl⟩)
      | (go_at_call 38; refine (near_run _ hn.1 hn.2 _ hT).mono ?_; rintro e w1 ⟨v, rfl, o1, b1⟩))
    go_ret
    exact ⟨rfl, b1⟩
theorem iCodeNear_calls (n : Int) (w : World) (hT : Tab2 w) :
    Calls Tryd.prog 18 #[.int .i64 n] w (GotL w (cNear n).1 (cNear n).2) := by
  rcases hb : wordB n with _ | _
  · have hn := (wordB_no n).1 hb
    rw [show cNear n = ([], false) by simp [cNear, hb]]
    clear hb
    go_enter Tryd.func18, Tryd.ntmps18
    go_wp2_with (go_at_call 37; refine (wordFrom_no _ _ hn).mono ?_; rintro e w' ⟨rfl, rfl⟩)
    go_ret2
    exact ⟨_, rfl, Own.nil_ _ _, Below.refl _ _⟩
  · have hn := (wordB_iff n).1 hb
    rw [show cNear n = (nearL n, true) by simp [cNear, hb]]
    clear hb
    go_enter Tryd.func18, Tryd.ntmps18
    go_wp2_with (first
      | (go_at_call 37; refine (wordFrom_ok _ _ hn.1 hn.2).mono ?_; rintro e w' ⟨rfl, rfl⟩)
      | (go_at_call 38; refine (near_run _ hn.1 hn.2 _ hT).mono ?_; rintro e w1 ⟨v, rfl, o1, b1⟩))
    go_ret2
    exact ⟨_, rfl, o1, b1⟩
theorem iCodeMend_calls (n : Int) (w : World) (hT : Tab2 w) :
    Calls Tryd.prog 23 #[.int .i64 n] w fun e w' => e = .returned (.tuple #[.int .i64 (cMend n).1, .bool (cMend n).2]) ∧ Below w.heap.size w w' := by
  rcases hb : wordB n with _ | _
  · have hn := (wordB_no n).1 hb
    rw [show cMend n = (0, false) by simp [cMend, hb]]
    clear hb
    go_enter Tryd.func23, Tryd.ntmps23
    go_wp2_with (go_at_call 37; refine (wordFrom_no _ _ hn).mono ?_; rintro e w' ⟨rfl, rfl⟩)
    go_ret2
    exact ⟨rfl, Below.refl _ _⟩
  · have hn := (wordB_iff n).1 hb
    have HN := Lib.hid (nearL_len n hn.1 hn.2)
    by_cases hd : farI n ≤ 3
    · obtain ⟨L, hL⟩ : ∃ L, nearL n = L := ⟨_, rfl⟩
      have hM : cMend n = (L.getD 0 0, true) := by rw [← hL]; simp [cMend, hb, hd]
      obtain ⟨y, hy⟩ : ∃ y, L.getD 0 0 = y := ⟨_, rfl⟩
      rw [hM, hy]
      have HL := Lib.hid hL
      have HY := Lib.hid hy
      clear hb hM hL hy
      go_enter Tryd.func23, Tryd.ntmps23
      go_wp2_with (go_at_call 37; refine (wordFrom_ok _ _ hn.1 hn.2).mono ?_; rintro e w' ⟨rfl, rfl⟩)
      refine (near_run _ hn.1 hn.2 _ hT).mono ?_
      rintro e w1 ⟨v, rfl, o1, b1⟩
      rw [HL.out] at o1
      have hl1 : L.length = 1 := by rw [← HL.out]; rcases HN.out with h | h <;> omega
      obtain ⟨g, c, rfl⟩ := own_at1 o1 (by omega)
      have hc0 := o1.cell (j := 0) (by omega)
      have hf0 := o1.free 0
      rw [hl1]
      rw [HY.out] at hc0
      clear HL HN HY hl1 o1
      generalize farI n = f at *
      go_wp2
      go_ret2
      exact ⟨rfl, b1⟩
    · rw [show cMend n = (0, false) by simp [cMend, hb, hd]]
      clear hb
      go_enter Tryd.func23, Tryd.ntmps23
      go_wp2_with (first
        | (go_at_call 37; refine (wordFrom_ok _ _ hn.1 hn.2).mono ?_; rintro e w' ⟨rfl, rfl⟩)
        | (go_at_call 38; refine (near_run _ hn.1 hn.2 _ hT).mono ?_; rintro e w1 ⟨v, rfl, o1, b1⟩))
      go_ret2
      exact ⟨rfl, b1⟩
end Go.Proofs.YtongfkjlajmgfaaDoor
