/- Drawing for chapter 7, of the model. -/
import Derived.Test.YtakefnfhjiodnaaDoorC118
import Derived.Test.YtakefnfhjiodnaaDoorQ2
import Derived.Test.YtakefnfhjiodnaaDoorC18
namespace Go.Proofs.YtakefnfhjiodnaaDoor
open Go.RowKit
set_option linter.unusedVariables false
attribute [local irreducible] cN syn

theorem DrawPermValid_calls (A : Option Addr) (c : Nat) (bs : List Int) (w : World) (hr : Rds w w.heap.size .u8 A bs) (hc : bs.length ≤ c) (hm : c ≤ maxLen) (hv : ∀ i, 0 ≤ bs.getD i 0 ∧ bs.getD i 0 ≤ 255) :
    Calls Tryd.prog 12 #[.slice A bs.length c] w fun e w' => ∃ v xs, e = .returned v ∧ Own w' w.heap.size v xs ∧ xs.length ≤ 24 ∧ Below w.heap.size w w' := by
  go_enter Tryd.func12, Tryd.ntmps12
  go_wp2_with fail
  refine (l6Open_calls A c bs _ hr hc hm hv).mono ?_
  rintro e w1 ⟨g, rfl, hg, r1, b1⟩
  go_wp2_with fail
  refine (l92Perm_calls g 0 _ r1 (by omega)).mono ?_
  rintro e w2 ⟨v, xs, q1, rfl, o2, hl, hq1, r2, g2⟩
  go_wp2_with fail
  go_ret
  exact ⟨v, xs, rfl, o2.weak b1.size, hl, b1.trans (grown_below g2 hg b1.size)⟩
theorem DrawPermTurned_calls (A : Option Addr) (c : Nat) (bs : List Int) (w : World) (hr : Rds w w.heap.size .u8 A bs) (hc : bs.length ≤ c) (hm : c ≤ maxLen) (hv : ∀ i, 0 ≤ bs.getD i 0 ∧ bs.getD i 0 ≤ 255) :
    Calls Tryd.prog 23 #[.slice A bs.length c] w fun e w' => ∃ v xs, e = .returned v ∧ Own w' w.heap.size v xs ∧ xs.length ≤ 24 ∧ Below w.heap.size w w' := by
  go_enter Tryd.func23, Tryd.ntmps23
  go_wp2_with fail
  refine (l6Open_calls A c bs _ hr hc hm hv).mono ?_
  rintro e w1 ⟨g, rfl, hg, r1, b1⟩
  go_wp2_with fail
  refine (l92Perm_calls g 0 _ r1 (by omega)).mono ?_
  rintro e w2 ⟨v, xs, q1, rfl, o2, hl, hq1, r2, g2⟩
  go_wp2_with fail
  go_ret
  exact ⟨v, xs, rfl, o2.weak b1.size, hl, b1.trans (grown_below g2 hg b1.size)⟩
theorem DrawPermOrder_calls (A : Option Addr) (c : Nat) (bs : List Int) (w : World) (hr : Rds w w.heap.size .u8 A bs) (hc : bs.length ≤ c) (hm : c ≤ maxLen) (hv : ∀ i, 0 ≤ bs.getD i 0 ∧ bs.getD i 0 ≤ 255) :
    Calls Tryd.prog 30 #[.slice A bs.length c] w fun e w' => ∃ v xs, e = .returned v ∧ Own w' w.heap.size v xs ∧ xs.length ≤ 24 ∧ Below w.heap.size w w' := by
  go_enter Tryd.func30, Tryd.ntmps30
  go_wp2_with fail
  refine (l6Open_calls A c bs _ hr hc hm hv).mono ?_
  rintro e w1 ⟨g, rfl, hg, r1, b1⟩
  go_wp2_with fail
  refine (l92Perm_calls g 0 _ r1 (by omega)).mono ?_
  rintro e w2 ⟨v, xs, q1, rfl, o2, hl, hq1, r2, g2⟩
  go_wp2_with fail
  go_ret
  exact ⟨v, xs, rfl, o2.weak b1.size, hl, b1.trans (grown_below g2 hg b1.size)⟩
theorem DrawPermFixed_calls (A : Option Addr) (c : Nat) (bs : List Int) (w : World) (hr : Rds w w.heap.size .u8 A bs) (hc : bs.length ≤ c) (hm : c ≤ maxLen) (hv : ∀ i, 0 ≤ bs.getD i 0 ∧ bs.getD i 0 ≤ 255) :
    Calls Tryd.prog 33 #[.slice A bs.length c] w fun e w' => ∃ v xs, e = .returned v ∧ Own w' w.heap.size v xs ∧ xs.length ≤ 24 ∧ Below w.heap.size w w' := by
  go_enter Tryd.func33, Tryd.ntmps33
  go_wp2_with fail
  refine (l6Open_calls A c bs _ hr hc hm hv).mono ?_
  rintro e w1 ⟨g, rfl, hg, r1, b1⟩
  go_wp2_with fail
  refine (l92Perm_calls g 0 _ r1 (by omega)).mono ?_
  rintro e w2 ⟨v, xs, q1, rfl, o2, hl, hq1, r2, g2⟩
  go_wp2_with fail
  go_ret
  exact ⟨v, xs, rfl, o2.weak b1.size, hl, b1.trans (grown_below g2 hg b1.size)⟩
theorem DrawPermKeeps_calls (A : Option Addr) (c : Nat) (bs : List Int) (w : World) (hr : Rds w w.heap.size .u8 A bs) (hc : bs.length ≤ c) (hm : c ≤ maxLen) (hv : ∀ i, 0 ≤ bs.getD i 0 ∧ bs.getD i 0 ≤ 255) :
    Calls Tryd.prog 37 #[.slice A bs.length c] w fun e w' => ∃ v xs, e = .returned v ∧ Own w' w.heap.size v xs ∧ xs.length ≤ 24 ∧ Below w.heap.size w w' := by
  go_enter Tryd.func37, Tryd.ntmps37
  go_wp2_with fail
  refine (l6Open_calls A c bs _ hr hc hm hv).mono ?_
  rintro e w1 ⟨g, rfl, hg, r1, b1⟩
  go_wp2_with fail
  refine (l92Perm_calls g 0 _ r1 (by omega)).mono ?_
  rintro e w2 ⟨v, xs, q1, rfl, o2, hl, hq1, r2, g2⟩
  go_wp2_with fail
  go_ret
  exact ⟨v, xs, rfl, o2.weak b1.size, hl, b1.trans (grown_below g2 hg b1.size)⟩
theorem DrawPermTimes_calls (A : Option Addr) (c : Nat) (bs : List Int) (w : World) (hr : Rds w w.heap.size .u8 A bs) (hc : bs.length ≤ c) (hm : c ≤ maxLen) (hv : ∀ i, 0 ≤ bs.getD i 0 ∧ bs.getD i 0 ≤ 255) :
    Calls Tryd.prog 19 #[.slice A bs.length c] w fun e w' => ∃ v xs v2 ys, e = .returned (.tuple #[v, v2]) ∧ Own w' w.heap.size v xs ∧ Own w' w.heap.size v2 ys ∧ xs.length ≤ 24 ∧ ys.length ≤ 24 ∧ Below w.heap.size w w' := by
  have H : Calls Tryd.prog 60 #[.slice A bs.length c] w fun e w' => ∃ v xs v2 ys, e = .returned (.tuple #[v, v2]) ∧ Own w' w.heap.size v xs ∧ Own w' w.heap.size v2 ys ∧ xs.length ≤ 24 ∧ ys.length ≤ 24 ∧ Below w.heap.size w w' := by
    go_enter Tryd.func60, Tryd.ntmps60
    go_wp2_with fail
    refine (l6Open_calls A c bs _ hr hc hm hv).mono ?_
    rintro e w1 ⟨g, rfl, hg, r1, b1⟩
    go_wp2_with fail
    refine (l92Perm_calls g 0 _ r1 (by omega)).mono ?_
    rintro e w2 ⟨v, xs, q1, rfl, o2, hl, hq1, r2, g2⟩
    go_wp2_with fail
    refine (l92Perm_calls g q1 _ r2 (by omega)).mono ?_
    rintro e w3 ⟨v2, ys, q2, rfl, o3, hl2, hq2, r3, g3⟩
    go_wp2_with fail
    go_ret2
    have hgl := r1.lt
    exact ⟨v, xs, v2, ys, rfl, (o2.grownG g3 hgl).weak b1.size, o3.weak (Nat.le_trans b1.size g2.size), hl, hl2, b1.trans (grown_below (grown_trans g2 g3) hg b1.size)⟩
  go_enter Tryd.func19, Tryd.ntmps19
  go_wp2_with fail
  refine H.mono ?_
  rintro e w1 ⟨v, xs, v2, ys, rfl, h1, h2, h3, h4, h5⟩
  go_wp2_with fail
  go_ret2
  exact ⟨v, xs, v2, ys, rfl, h1, h2, h3, h4, h5⟩
theorem DrawPermWord_calls (A : Option Addr) (c : Nat) (bs : List Int) (w : World) (hr : Rds w w.heap.size .u8 A bs) (hc : bs.length ≤ c) (hm : c ≤ maxLen) (hv : ∀ i, 0 ≤ bs.getD i 0 ∧ bs.getD i 0 ≤ 255) :
    Calls Tryd.prog 26 #[.slice A bs.length c] w fun e w' => ∃ v xs n, e = .returned (.tuple #[v, .int .i64 n]) ∧ Own w' w.heap.size v xs ∧ xs.length ≤ 24 ∧ -1 ≤ n ∧ n ≤ 16777216 ∧ Below w.heap.size w w' := by
  go_enter Tryd.func26, Tryd.ntmps26
  go_wp2_with fail
  refine (l6Open_calls A c bs _ hr hc hm hv).mono ?_
  rintro e w1 ⟨g, rfl, hg, r1, b1⟩
  go_wp2_with fail
  refine (l92Perm_calls g 0 _ r1 (by omega)).mono ?_
  rintro e w2 ⟨v, xs, q1, rfl, o2, hl, hq1, r2, g2⟩
  go_wp2_with fail
  refine (l91Word_calls g q1 _ r2 (by omega)).mono ?_
  rintro e w3 ⟨n, q2, rfl, n0, n1, hq2, r3, g3⟩
  go_wp2_with fail
  go_ret2
  have hgl := r1.lt
  exact ⟨v, xs, n, rfl, (o2.grownG g3 hgl).weak b1.size, hl, n0, n1, b1.trans (grown_below (grown_trans g2 g3) hg b1.size)⟩
theorem DrawPermHex_calls (A : Option Addr) (c : Nat) (bs : List Int) (w : World) (hr : Rds w w.heap.size .u8 A bs) (hc : bs.length ≤ c) (hm : c ≤ maxLen) (hv : ∀ i, 0 ≤ bs.getD i 0 ∧ bs.getD i 0 ≤ 255) :
    Calls Tryd.prog 41 #[.slice A bs.length c] w fun e w' => ∃ v xs, e = .returned v ∧ Own w' w.heap.size v xs ∧ xs.length ≤ 6 ∧ Below w.heap.size w w' := by
  go_enter Tryd.func41, Tryd.ntmps41
  go_wp2_with fail
  refine (l6Open_calls A c bs _ hr hc hm hv).mono ?_
  rintro e w1 ⟨g, rfl, hg, r1, b1⟩
  go_wp2_with fail
  refine (l91Row_calls g 0 _ r1 (by omega)).mono ?_
  rintro e w2 ⟨v, xs, q1, rfl, o2, hl, hq1, r2, g2⟩
  go_wp2_with fail
  go_ret
  exact ⟨v, xs, rfl, o2.weak b1.size, hl, b1.trans (grown_below g2 hg b1.size)⟩
theorem DrawPermScale_calls (A : Option Addr) (c : Nat) (bs : List Int) (w : World) (hr : Rds w w.heap.size .u8 A bs) (hc : bs.length ≤ c) (hm : c ≤ maxLen) (hv : ∀ i, 0 ≤ bs.getD i 0 ∧ bs.getD i 0 ≤ 255) :
    Calls Tryd.prog 45 #[.slice A bs.length c] w fun e w' => ∃ n : Int, e = .returned (.int .i64 n) ∧ 0 ≤ n ∧ n ≤ 4 ∧ Below w.heap.size w w' := by
  go_enter Tryd.func45, Tryd.ntmps45
  go_wp2_with fail
  refine (l6Open_calls A c bs _ hr hc hm hv).mono ?_
  rintro e w1 ⟨g, rfl, hg, r1, b1⟩
  go_wp2_with fail
  refine (pick_calls g 0 5 _ r1 (by omega) (by omega) (by omega)).mono ?_
  rintro e w2 ⟨n, rfl, n0, n1, r2, g2⟩
  go_wp2_with fail
  go_ret
  exact ⟨n, rfl, n0, by omega, b1.trans (grown_below g2 hg b1.size)⟩
end Go.Proofs.YtakefnfhjiodnaaDoor
