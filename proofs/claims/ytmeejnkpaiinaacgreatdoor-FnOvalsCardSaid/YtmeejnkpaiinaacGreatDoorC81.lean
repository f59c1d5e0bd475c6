/- Sorting words by the library's own text: comparing, inserting; the walks. -/
import Derived.Test.YtmeejnkpaiinaacGreatDoorC80
import Derived.Deep.QuietTactic
import Derived.Deep.Draws
import Derived.BigQuiet
import Derived.CellFam
namespace Go.Proofs.YtmeejnkpaiinaacGreatDoor
open Go.RowKit Go.Sort
set_option linter.unusedVariables false

def intW : Value → Int | .int _ q => q | _ => 0
theorem insI_go (a j : Nat) (d : Array Int) (hj : a < j + 1) (hl : ltInt d[j + 1]! d[j]! = true) : insInner ltInt a (j + 1) d = insInner ltInt a j (Go.Sort.swp d (j + 1) j) := by
  rw [insInner]
  simp [hj, hl]
theorem insI_no (a j : Nat) (d : Array Int) (hl : ltInt d[j + 1]! d[j]! = false) : insInner ltInt a (j + 1) d = d := by
  rw [insInner]
  simp [hl]
theorem insI_end (a j : Nat) (d : Array Int) (h : j ≤ a) : insInner ltInt a j d = d := by
  cases j with
  | zero => rw [insInner]
  | succ k => rw [insInner]; simp [show ¬ k + 1 > a by omega]
theorem insO_go (a b i : Nat) (d : Array Int) (h : i < b) : insOuter ltInt a b i d = insOuter ltInt a b (i + 1) (insInner ltInt a i d) := by rw [insOuter, if_pos h]
theorem insO_end (a b i : Nat) (d : Array Int) (h : ¬ i < b) : insOuter ltInt a b i d = d := by rw [insOuter, if_neg h]
theorem insI_size (a : Nat) : ∀ (j : Nat) (d : Array Int), (insInner ltInt a j d).size = d.size
  | 0, d => by rw [insInner]
  | j + 1, d => by
    rw [insInner]
    split
    · rw [insI_size a j, size_swp]
    · rfl
theorem wNaN (x : Int) (w : World) : Calls Tryz.prog 227 #[.int .u32 x] w fun e w' => e = .returned (.bool false) ∧ w' = w := by
  go_enter Tryz.func227, Tryz.ntmps227
  go_wp2
  go_ret
  exact ⟨rfl, rfl⟩
theorem wLess (x y : Int) (w : World) : Calls Tryz.prog 217 #[.int .u32 x, .int .u32 y] w fun e w' => e = .returned (.bool (ltInt x y)) ∧ w' = w := by
  go_enter Tryz.func217, Tryz.ntmps217
  go_wp2_with (go_at_call 227; refine (wNaN _ _).mono ?_; rintro e w' ⟨rfl, rfl⟩)
  go_ret
  exact ⟨rfl, rfl⟩
theorem wLessV (x y : Int) (w : World) (r : Bool) (h : ltInt x y = r) : Calls Tryz.prog 217 #[.int .u32 x, .int .u32 y] w fun e w' => e = .returned (.bool r) ∧ w' = w := by
  rw [← h]; exact wLess x y w
set_option maxRecDepth 100000 in
set_option maxHeartbeats 1000000 in
theorem wInsert (g c a b : Nat) (t : TypeId) (tl : Array Value) (d : Array Int) (n : Nat) (w : World) (hd : d.size = n) (hR : RowB w g t tl d) (hab : a ≤ b) (hb : b ≤ n) (hn : n ≤ 100) :
    Calls Tryz.prog 211 #[.slice (some ⟨g, 0, none⟩) n c, .int .i64 a, .int .i64 b] w fun e w' =>
      e = .returned (.tuple #[]) ∧ RowB w' g t tl (insertionSort ltInt d a b) ∧ Trn g w w' := by
  have HR0 := Lib.hid hR
  have HD := Lib.hid hd
  clear hR hd
  go_enter Tryz.func211, Tryz.ntmps211
  go_wp2
  go_loopw [6] (fun vi wr => ∃ (i : Nat) (dk : Array Int), vi = .int .i64 i ∧ a < i ∧ i ≤ b + 1 ∧ Hid (dk.size = n ∧ RowB wr g t tl dk ∧ Trn g w wr ∧ insOuter ltInt a b i dk = insertionSort ltInt d a b)) (fun vi _ => b + 1 - (intW vi).toNat)
  case atStart => exact ⟨a + 1, d, by go_num, by omega, by omega, Lib.hid ⟨HD.out, HR0.out, Trn.refl _ _, rfl⟩⟩
  case round =>
    obtain ⟨i, dk, rfl, hai, hib, HK⟩ := hrel
    by_cases hlt : i < b
    · have HIK := Lib.hid hlt
      go_wp2_with fail
      go_loopw [7] (fun vj wr2 => ∃ (j : Nat) (dj : Array Int), vj = .int .i64 j ∧ a ≤ j ∧ j ≤ i ∧ Hid (dj.size = n ∧ RowB wr2 g t tl dj ∧ Trn g w wr2 ∧ insInner ltInt a j dj = insInner ltInt a i dk)) (fun vj _ => (intW vj).toNat)
      case atStart => exact ⟨i, dk, rfl, by omega, Nat.le_refl _, Lib.hid ⟨HK.out.1, HK.out.2.1, HK.out.2.2.1, rfl⟩⟩
      case round =>
        obtain ⟨j, dj, rfl, haj, hji, HJ⟩ := hrel
        have out : insInner ltInt a j dj = dj → ∀ q, ∃ i' dk', Value.int .i64 ((i : Int) + 1) = .int .i64 (i' : Nat) ∧ a < i' ∧ i' ≤ b + 1 ∧ Hid (dk'.size = n ∧ RowB (wr.drewN q) g t tl dk' ∧ Trn g w (wr.drewN q) ∧ insOuter ltInt a b i' dk' = insertionSort ltInt d a b) := fun hs q =>
          ⟨i + 1, dj, by go_num, by omega, by omega, Lib.hid ⟨HJ.out.1, HJ.out.2.1, HJ.out.2.2.1.drewN q, by rw [← HK.out.2.2.2, insO_go _ _ _ _ HIK.out, ← HJ.out.2.2.2, hs]⟩⟩
        have OUT := Lib.hid out
        clear out
        by_cases hja : a < j
        · obtain ⟨q, rfl⟩ : ∃ q, j = q + 1 := ⟨j - 1, by omega⟩
          have hjI : (a : Int) < (q : Int) + 1 := by omega
          have hqI : (q : Int) + 1 < (n : Int) := by omega
          have hq0 : (0 : Int) ≤ (q : Int) := by omega
          have hc1 := HJ.out.2.1.cell (i := q + 1) (by rw [HJ.out.1]; omega)
          have hc0 := HJ.out.2.1.cell (i := q) (by rw [HJ.out.1]; omega)
          have hf1 := HJ.out.2.1.free (q + 1)
          have hf0 := HJ.out.2.1.free q
          obtain ⟨x1, hx1⟩ : ∃ x, x = dj[q + 1]! := ⟨_, rfl⟩
          obtain ⟨x0, hx0⟩ : ∃ x, x = dj[q]! := ⟨_, rfl⟩
          rw [← hx1] at hc1
          rw [← hx0] at hc0
          have H1 := Lib.hid hx1
          have H0 := Lib.hid hx0
          clear hx1 hx0
          cases hL : ltInt x1 x0
          · have HL := Lib.hid hL
            go_wp2_with fail
            go_quiet (first | (go_at_call 217; refine Calls.quiet_of_same (wLess _ _ _)))
            go_wp2_with fail
            go_roundw
            case rel => exact OUT.out (insI_no _ _ _ (by rw [← H1.out, ← H0.out]; exact HL.out)) nq
            case measure => first | (simp [intW]; done) | (simp [intW]; omega)
          · have HL := Lib.hid hL
            go_wp2_with fail
            go_quiet (first | (go_at_call 217; refine Calls.quiet_of_same (wLess _ _ _)))
            go_wp2_with fail
            go_region
            all_goals go_wp2_with fail
            go_roundw
            case rel => exact ⟨q, Go.Sort.swp dj (q + 1) q, by go_num, by omega, by omega, Lib.hid ⟨by rw [size_swp]; exact HJ.out.1, by rw [H1.out, H0.out]; exact (HJ.out.2.1.drewN _).swp (by rw [HJ.out.1]; omega) (by rw [HJ.out.1]; omega), (HJ.out.2.2.1.drewN _).swp _ _ _ _, by rw [← HJ.out.2.2.2, insI_go _ _ _ hja (by rw [← H1.out, ← H0.out]; exact HL.out)]⟩⟩
            case measure => first | (simp [intW]; done) | (simp [intW]; omega)
        · have hjI : ¬ (a : Int) < (j : Int) := by omega
          go_wp2_with fail
          go_quiet (first | (go_at_call 217; refine Calls.quiet_of_same (wLess _ _ _)))
          go_wp2_with fail
          go_roundw
          case rel => exact OUT.out (insI_end _ _ _ (by omega)) nq
          case measure => first | (simp [intW]; done) | (simp [intW]; omega)
    · have hge := Lib.hid hlt
      go_wp2_with fail
      go_end0
      exact ⟨rfl, by rw [← HK.out.2.2.2, insO_end _ _ _ _ hge.out]; exact HK.out.2.1, HK.out.2.2.1⟩
end Go.Proofs.YtmeejnkpaiinaacGreatDoor
