/- Sorting words by the library's own text: what is sorted already; patterns broken. -/
import Derived.Test.YtmeejnkpaiinaacGreatDoorC83
namespace Go.Proofs.YtmeejnkpaiinaacGreatDoor
open Go.RowKit Go.Sort
set_option linter.unusedVariables false

theorem scS_end (d : Array Int) (b i : Nat) (h : ¬ i < b ∨ ltInt d[i]! d[i - 1]! = true) : scanSorted ltInt d b i = i := by
  rw [scanSorted, if_neg]
  rcases h with h | h <;> simp [h]
theorem scS_go (d : Array Int) (b i : Nat) (h : i < b) (hp : ltInt d[i]! d[i - 1]! = false) : scanSorted ltInt d b i = scanSorted ltInt d b (i + 1) := by
  conv => lhs; rw [scanSorted]
  rw [if_pos (by simp [h, hp])]
set_option maxRecDepth 100000 in
set_option maxHeartbeats 1000000 in
theorem wPartial (g c a b n : Nat) (t : TypeId) (tl : Array Value) (d : Array Int) (w : World) (hd : d.size = n) (hR : RowB w g t tl d) (hab : a < b) (hb : b ≤ n) (hn : n ≤ 40) :
    Calls Tryz.prog 216 #[.slice (some ⟨g, 0, none⟩) n c, .int .i64 a, .int .i64 b] w fun e w' =>
      ∃ r : Bool, e = .returned (.bool r) ∧ (r = true → SortedIn ltInt a b d) ∧ ∃ k, w' = w.drewN k := by
  have HR := Lib.hid hR
  have HD := Lib.hid hd
  have HS := Lib.hid (scanSorted_spec swo_ltInt a b d _ (a + 1) rfl (by omega) (fun i j h1 h2 h3 => by omega)).2.2
  clear hR hd
  go_enter Tryz.func216, Tryz.ntmps216
  go_wp2_with fail
  refine wp_loop_rounds 1 ?_
  rw [rounds_succ]
  go_wp2_with fail
  go_loopw [7] (fun vi wq => ∃ i m : Nat, vi = .int .i64 (i : Nat) ∧ a + 1 ≤ i ∧ i ≤ b ∧ Hid (wq = w.drewN m) ∧ Hid (scanSorted ltInt d b i = scanSorted ltInt d b (a + 1))) (fun vi _ => b - (intW vi).toNat)
  case atStart => exact ⟨a + 1, 0, by go_num, by omega, by omega, Lib.hid rfl, Lib.hid rfl⟩
  case round =>
    obtain ⟨i, m, rfl, hi0, hi1, HW, HU⟩ := hrel
    have HRW := Lib.hid (show RowB wr g t tl d by rw [HW.out]; exact HR.out)
    have hnm : (b : Int) - (a : Int) < 50 := by omega
    by_cases hib : i < b
    · obtain ⟨q, rfl⟩ : ∃ q, i = q + 1 := ⟨i - 1, by omega⟩
      have hq0 : (0 : Int) ≤ (q : Int) := by omega
      have hqn : (q : Int) + 1 < (n : Int) := by omega
      have hqb : (q : Int) + 1 < (b : Int) := by omega
      have hqb2 : ¬ ((q : Int) + 1 = (b : Int)) := by omega
      have hqb3 : (((q : Int) + 1) == (b : Int)) = false := by simpa using hqb2
      have hc1 := HRW.out.cell (i := q + 1) (by rw [HD.out]; omega)
      have hc0 := HRW.out.cell (i := q) (by rw [HD.out]; omega)
      obtain ⟨x1, hx1⟩ : ∃ x, x = d[q + 1]! := ⟨_, rfl⟩
      obtain ⟨x0, hx0⟩ : ∃ x, x = d[q]! := ⟨_, rfl⟩
      rw [← hx1] at hc1
      rw [← hx0] at hc0
      have H1 := Lib.hid hx1
      have H0 := Lib.hid hx0
      clear hx1 hx0
      cases hL : ltInt x1 x0
      · have HL := Lib.hid hL
        go_wp2_with fail
        go_quiet (first | (go_at_call 217; refine Calls.quiet_of_same (wLessV _ _ _ _ HL.out)))
        go_wp2_with fail
        go_roundw
        case rel => exact ⟨q + 1 + 1, m + nq, by go_num, by omega, by omega, Lib.hid (by rw [HW.out, World.drewN_drewN]), Lib.hid (by rw [← HU.out]; exact (scS_go _ _ _ hib (by rw [Nat.add_sub_cancel, ← H1.out, ← H0.out]; exact HL.out)).symm)⟩
        case measure => first | (simp [intW]; done) | (simp [intW]; omega)
      · have HL := Lib.hid hL
        go_wp2_with fail
        go_quiet (first | (go_at_call 217; refine Calls.quiet_of_same (wLessV _ _ _ _ HL.out)))
        go_wp2_with fail
        go_ret
        exact ⟨false, rfl, fun h => (by cases h), m + nq, by rw [HW.out, World.drewN_drewN]⟩
    · have hibI : ¬ (i : Int) < (b : Int) := by omega
      have hie : i = b := by omega
      have HS2 := Lib.hid (show SortedIn ltInt a b d by
        have := HS.out
        rw [← HU.out, scS_end _ _ _ (.inl hib), hie] at this
        exact this)
      subst hie
      go_wp2_with fail
      go_quiet (first | (go_at_call 217; refine Calls.quiet_of_same (wLess _ _ _)))
      go_wp2_with fail
      go_ret
      exact ⟨true, rfl, fun _ => HS2.out, m + nq, by rw [HW.out, World.drewN_drewN]⟩
set_option maxRecDepth 100000 in
set_option maxHeartbeats 1000000 in
theorem wLen64 (x L : Nat) (w : World) (h : (x, L) ∈ [(13, 4), (14, 4), (15, 4), (16, 5), (17, 5), (18, 5), (19, 5), (20, 5), (21, 5)]) :
    Calls Tryz.prog 150 #[.int .u64 (x : Int)] w fun e w' => e = .returned (.int .i64 (L : Int)) ∧ w' = w := by
  simp only [List.mem_cons, List.not_mem_nil, or_false, Prod.mk.injEq] at h
  rcases h with ⟨rfl, rfl⟩ | ⟨rfl, rfl⟩ | ⟨rfl, rfl⟩ | ⟨rfl, rfl⟩ | ⟨rfl, rfl⟩ | ⟨rfl, rfl⟩ | ⟨rfl, rfl⟩ | ⟨rfl, rfl⟩ | ⟨rfl, rfl⟩
  all_goals
    go_enter Tryz.func150, Tryz.ntmps150
    go_wp2
    go_ret
    exact ⟨by kernel_rfl, rfl⟩
set_option maxRecDepth 100000 in
set_option maxHeartbeats 1000000 in
theorem wPow2 (x M : Nat) (w : World) (h : (x, M) ∈ [(13, 16), (14, 16), (15, 16), (16, 32), (17, 32), (18, 32), (19, 32), (20, 32), (21, 32)]) :
    Calls Tryz.prog 203 #[.int .i64 (x : Int)] w fun e w' => e = .returned (.int .u64 (M : Int)) ∧ w' = w := by
  have HL := Lib.hid (fun L hL => wLen64 x L w hL)
  simp only [List.mem_cons, List.not_mem_nil, or_false, Prod.mk.injEq] at h
  rcases h with ⟨rfl, rfl⟩ | ⟨rfl, rfl⟩ | ⟨rfl, rfl⟩ | ⟨rfl, rfl⟩ | ⟨rfl, rfl⟩ | ⟨rfl, rfl⟩ | ⟨rfl, rfl⟩ | ⟨rfl, rfl⟩ | ⟨rfl, rfl⟩
  all_goals
    go_enter Tryz.func203, Tryz.ntmps203
    go_wp2_with (go_at_call 150; (first | (refine (HL.out 4 (by decide)).mono ?_) | (refine (HL.out 5 (by decide)).mono ?_)); rintro e w' ⟨rfl, rfl⟩)
    go_ret
    exact ⟨by kernel_rfl, rfl⟩
end Go.Proofs.YtmeejnkpaiinaacGreatDoor
