/- Drawing octads. -/
import Derived.Test.YtiinekoepoonfaaDoorC39
import Derived.Test.YtiinekoepoonfaaDoorC13
namespace Go.Proofs.YtiinekoepoonfaaDoor
open Go.RowKit
set_option linter.unusedVariables false
attribute [local irreducible] octS cN octF

theorem oThrough_rng (xs : List Int) : IsW (oThrough xs).1 := by
  unfold oThrough
  rcases hf : wof xs with _ | t
  · exact ⟨Int.le_refl _, by show (0 : Int) ≤ 16777215; decide⟩
  · by_cases h5 : xs.length = 5
    · simp only [h5, if_true]
      obtain ⟨h1, h2⟩ := wof_is hf
      have hl := oWith_five h1 (by omega)
      have hm : (oWith t).getD 0 0 ∈ oWith t := by
        rw [← getD_at (oWith t) 0 (by omega)]
        exact List.getElem_mem _
      exact (oWith_mem.1 hm).1.rng
    · simp only [h5, if_false]
      exact ⟨Int.le_refl _, by show (0 : Int) ≤ 16777215; decide⟩
set_option maxHeartbeats 2000000 in
theorem l91Octad_calls (g q : Nat) (w : World) (h : Rd w g q) (hq : q ≤ 700000) :
    Calls Tryd.prog 38 #[.pointer (some ⟨g, 0, none⟩)] w fun e w' => ∃ (v : Int) (q' : Nat), e = .returned (.int .i64 v) ∧ -1 ≤ v ∧ v ≤ 16777216 ∧ q' ≤ q + 60 ∧ Rd w' g q' ∧ w.grownBy w' (some g) := by
  go_enter Tryd.func38, Tryd.ntmps38
  go_wp2_with fail
  refine (pick_calls g q 12 _ h (by omega) (by omega) (by omega)).mono ?_
  rintro e w1 ⟨a, rfl, a0, a1, r1, g1⟩
  by_cases h0 : a = 0
  · subst h0
    go_wp2_with fail
    refine (l91Word_calls g _ _ r1 (by omega)).mono ?_
    rintro e w2 ⟨v, q1, rfl, v0, v1, hq1, r2, g2⟩
    go_wp2_with fail
    go_ret
    exact ⟨v, q1, rfl, v0, v1, by omega, r2, grown_trans g1 g2⟩
  · have e0 : (a == 0) = false := by simpa using h0
    clear h0
    go_wp2_with fail
    refine (l91Places_calls g _ 5 _ r1 (by omega) (by omega) (by omega)).mono ?_
    rintro e w2 ⟨v, xs, q1, rfl, o2, hl, _, hq1, r2, g2⟩
    obtain ⟨A, c, rfl⟩ := o2.slice
    have hr := oThrough_rng xs
    have HS := Lib.hid (sOctadThrough_calls A c xs w2 o2.rds o2.len_le)
    have G2 := Lib.hid (grown_trans g1 g2)
    have R2 := Lib.hid r2
    clear g1 g2 r1 r2 o2
    rcases ho : oThrough xs with ⟨t, b⟩
    rw [ho] at HS hr
    clear ho
    dsimp only at HS hr
    have hr1 := hr.1
    have hr2 := hr.2
    go_wp2_with fail
    refine HS.out.mono ?_
    rintro e w3 ⟨rfl, b3⟩
    have R3 := Lib.hid (R2.out.below b3)
    have G3 := Lib.hid (grown_trans G2.out (below_grown b3 (some g)))
    clear b3 R2 G2
    cases b
    · go_wp2_with fail
      go_ret
      exact ⟨0, q1, rfl, by omega, by omega, by omega, R3.out, G3.out⟩
    · go_wp2_with fail
      go_ret
      exact ⟨t, q1, rfl, by omega, by omega, by omega, R3.out, G3.out⟩
theorem DrawOctadMeet_calls (A : Option Addr) (c : Nat) (bs : List Int) (w : World) (hr : Rds w w.heap.size .u8 A bs) (hc : bs.length ≤ c) (hm : c ≤ maxLen) (hv : ∀ i, 0 ≤ bs.getD i 0 ∧ bs.getD i 0 ≤ 255) :
    Calls Tryd.prog 13 #[.slice A bs.length c] w fun e w' => ∃ a : Int, e = .returned (.int .i64 a) ∧ -1 ≤ a ∧ a ≤ 16777216 ∧ Below w.heap.size w w' := by
  go_enter Tryd.func13, Tryd.ntmps13
  go_wp2_with fail
  refine (l6Open_calls A c bs _ hr hc hm hv).mono ?_
  rintro e w1 ⟨g, rfl, hg, r1, b1⟩
  go_wp2_with fail
  refine (l91Octad_calls g 0 _ r1 (by omega)).mono ?_
  rintro e w2 ⟨a, q1, rfl, a0, a1, hq1, r2, g2⟩
  go_wp2_with fail
  go_ret
  exact ⟨a, rfl, a0, a1, b1.trans (grown_below g2 hg b1.size)⟩
theorem xor_rng {a b : Int} (a0 : 0 ≤ a) (a1 : a ≤ 16777216) (b0 : 0 ≤ b) (b1 : b ≤ 16777216) : bits .xor .i64 a b = xorI a b := xor_i64 a b a0 (by omega) b0 (by omega)
set_option maxHeartbeats 2000000 in
theorem DrawDodecadOf_calls (A : Option Addr) (c : Nat) (bs : List Int) (w : World) (hr : Rds w w.heap.size .u8 A bs) (hc : bs.length ≤ c) (hm : c ≤ maxLen) (hv : ∀ i, 0 ≤ bs.getD i 0 ∧ bs.getD i 0 ≤ 255) :
    Calls Tryd.prog 23 #[.slice A bs.length c] w fun e w' => ∃ a : Int, e = .returned (.int .i64 a) ∧ 0 ≤ a ∧ Below w.heap.size w w' := by
  go_enter Tryd.func23, Tryd.ntmps23
  go_wp2_with fail
  refine (l6Open_calls A c bs _ hr hc hm hv).mono ?_
  rintro e w1 ⟨g, rfl, hg, r1, b1⟩
  go_wp2_with fail
  refine (l91Octad_calls g 0 _ r1 (by omega)).mono ?_
  rintro e w2 ⟨a, q1, rfl, a0, a1, hq1, r2, g2⟩
  go_wp2_with fail
  refine (l91Octad_calls g q1 _ r2 (by omega)).mono ?_
  rintro e w3 ⟨b, q2, rfl, b0, b1', hq2, r3, g3⟩
  have HB := Lib.hid (b1.trans (grown_below (grown_trans g2 g3) hg b1.size))
  have hg3 : w.heap.size ≤ w3.heap.size := HB.out.size
  clear g2 g3 b1 r1 r2
  by_cases ha : 0 ≤ a
  · by_cases hb : 0 ≤ b
    · have hx := xor_rng ha a1 hb b1'
      have hxn := xorI_nonneg a b
      go_wp2_with fail
      refine (pick_calls g q2 4 _ r3 (by omega) (by omega) (by omega)).mono ?_
      rintro e w4 ⟨x, rfl, x0, x1, r4, g4⟩
      have HB4 := Lib.hid (HB.out.trans (grown_below g4 hg hg3))
      clear g4
      by_cases hxx : 0 < x
      · go_wp2_with fail
        go_ret
        exact ⟨_, rfl, by omega, HB4.out⟩
      · have hs4 : w.heap.size ≤ w4.heap.size := HB4.out.size
        go_wp2_with fail
        refine (l91Code_calls g _ _ r4 (by omega)).mono ?_
        rintro e w5 ⟨v, rfl, v0, v1, r5, g5⟩
        go_wp2_with fail
        go_ret
        exact ⟨v, rfl, v0, HB4.out.trans (grown_below g5 hg hs4)⟩
    · go_wp2_with fail
      refine (l91Code_calls g _ _ r3 (by omega)).mono ?_
      rintro e w5 ⟨v, rfl, v0, v1, r5, g5⟩
      go_wp2_with fail
      go_ret
      exact ⟨v, rfl, v0, HB.out.trans (grown_below g5 hg hg3)⟩
  · go_wp2_with fail
    refine (l91Code_calls g _ _ r3 (by omega)).mono ?_
    rintro e w5 ⟨v, rfl, v0, v1, r5, g5⟩
    go_wp2_with fail
    go_ret
    exact ⟨v, rfl, v0, HB.out.trans (grown_below g5 hg hg3)⟩
theorem resW_is (o : Option Int) : ∃ (t : Int) (b : Bool), resW o = .tuple #[.int .i64 t, .bool b] := by
  rcases o with _ | t
  · exact ⟨0, false, rfl⟩
  · exact ⟨t, true, rfl⟩
set_option maxHeartbeats 2000000 in
theorem DrawOctadCount_calls (A : Option Addr) (c : Nat) (bs : List Int) (w : World) (hr : Rds w w.heap.size .u8 A bs) (hc : bs.length ≤ c) (hm : c ≤ maxLen) (hv : ∀ i, 0 ≤ bs.getD i 0 ∧ bs.getD i 0 ≤ 255) :
    Calls Tryd.prog 10 #[.slice A bs.length c] w fun e w' => ∃ a b : Int, e = .returned (.tuple #[.int .i64 a, .int .i64 b]) ∧ Below w.heap.size w w' := by
  go_enter Tryd.func10, Tryd.ntmps10
  go_wp2_with fail
  refine (l6Open_calls A c bs _ hr hc hm hv).mono ?_
  rintro e w1 ⟨g, rfl, hg, r1, b1⟩
  go_wp2_with fail
  refine (pick_calls g 0 6 _ r1 (by omega) (by omega) (by omega)).mono ?_
  rintro e w2 ⟨n, rfl, n0, n1, r2, g2⟩
  go_wp2_with fail
  refine (l91Places_calls g _ n _ r2 (by omega) (by omega) (by omega)).mono ?_
  rintro e w3 ⟨v, xs, q1, rfl, o3, hl, _, hq1, r3, g3⟩
  obtain ⟨A1, c1, rfl⟩ := o3.slice
  have HB3 := Lib.hid (b1.trans (grown_below (grown_trans g2 g3) hg b1.size))
  have hs3 : w.heap.size ≤ w3.heap.size := HB3.out.size
  have HS := Lib.hid (sWordOf_calls A1 c1 xs w3 o3.rds o3.len_le)
  obtain ⟨t, b, ht⟩ := resW_is (wof xs)
  rw [ht] at HS
  clear ht g2 g3 b1 r1 r2 o3 hl
  go_wp2_with fail
  refine HS.out.mono ?_
  rintro e w' ⟨rfl, rfl⟩
  go_wp2_with fail
  refine (pick_calls g q1 6 _ r3 (by omega) (by omega) (by omega)).mono ?_
  rintro e w4 ⟨m, rfl, m0, m1, r4, g4⟩
  go_wp2_with fail
  refine (l91Places_calls g _ m _ r4 (by omega) (by omega) (by omega)).mono ?_
  rintro e w5 ⟨v5, ys, q2, rfl, o5, hl5, _, hq5, r5, g5⟩
  obtain ⟨A2, c2, rfl⟩ := o5.slice
  have HB5 := Lib.hid (HB3.out.trans (grown_below (grown_trans g4 g5) hg hs3))
  have HS5 := Lib.hid (sWordOf_calls A2 c2 ys w5 o5.rds o5.len_le)
  obtain ⟨u, d, hu⟩ := resW_is (wof ys)
  rw [hu] at HS5
  clear hu g4 g5 r3 r4 o5 hl5
  go_wp2_with fail
  refine HS5.out.mono ?_
  rintro e w' ⟨rfl, rfl⟩
  cases b
  · go_wp2_with fail
    go_ret2
    exact ⟨_, _, rfl, HB5.out⟩
  · cases d
    · go_wp2_with fail
      go_ret2
      exact ⟨_, _, rfl, HB5.out⟩
    · go_wp2_with fail
      go_ret2
      exact ⟨_, _, rfl, HB5.out⟩
end Go.Proofs.YtiinekoepoonfaaDoor
