/- Drawing tetrads and sextets. -/
import Derived.Test.YtagniijhbiglaaaDoorC42
import Derived.Test.YtagniijhbiglaaaDoorC50
namespace Go.Proofs.YtagniijhbiglaaaDoor
open Go.RowKit
set_option linter.unusedVariables false
attribute [local irreducible] octS cN octF syn

theorem resW_w (xs : List Int) : ∃ (t : Int) (b : Bool), resW (wof xs) = .tuple #[.int .i64 t, .bool b] ∧ 0 ≤ t ∧ t ≤ 16777215 := by
  rcases hf : wof xs with _ | t
  · exact ⟨0, false, rfl, by omega, by omega⟩
  · exact ⟨t, true, rfl, (wof_is hf).1.1, (wof_is hf).1.2⟩
set_option maxHeartbeats 1000000 in
theorem l92Tetrad_calls (g q : Nat) (w : World) (h : Rd w g q) (hq : q ≤ 600000) :
    Calls Tryd.prog 43 #[.pointer (some ⟨g, 0, none⟩)] w fun e w' => ∃ (v : Int) (q' : Nat), e = .returned (.int .i64 v) ∧ -1 ≤ v ∧ v ≤ 16777216 ∧ q' ≤ q + 60 ∧ Rd w' g q' ∧ w.grownBy w' (some g) := by
  go_enter Tryd.func43, Tryd.ntmps43
  go_wp2_with fail
  refine (l91Places_calls g _ 4 _ h (by omega) (by omega) (by omega)).mono ?_
  rintro e w2 ⟨v, xs, q1, rfl, o2, hl, _, hq1, r2, g2⟩
  obtain ⟨A, c, rfl⟩ := o2.slice
  have HS := Lib.hid (sWordOf_calls A c xs w2 o2.rds o2.len_le)
  obtain ⟨t, b, ht, t0, t1⟩ := resW_w xs
  rw [ht] at HS
  clear ht o2 hl
  go_wp2_with fail
  refine HS.out.mono ?_
  rintro e w' ⟨rfl, rfl⟩
  cases b
  · go_wp2_with fail
    refine (l91Word_calls g _ _ r2 (by omega)).mono ?_
    rintro e w3 ⟨v, q2, rfl, v0, v1, hq2, r3, g3⟩
    go_wp2_with fail
    go_ret
    exact ⟨v, q2, rfl, v0, v1, by omega, r3, grown_trans g2 g3⟩
  · go_wp2_with fail
    refine (pick_calls g q1 20 _ r2 (by omega) (by omega) (by omega)).mono ?_
    rintro e w3 ⟨m, rfl, m0, m1, r3, g3⟩
    have G3 := Lib.hid (grown_trans g2 g3)
    clear g2 g3 r2
    by_cases hm : m = 0
    · subst hm
      go_wp2_with fail
      refine (l91Word_calls g _ _ r3 (by omega)).mono ?_
      rintro e w4 ⟨v, q2, rfl, v0, v1, hq2, r4, g4⟩
      go_wp2_with fail
      go_ret
      exact ⟨v, q2, rfl, v0, v1, by omega, r4, grown_trans G3.out g4⟩
    · have hm1 : (m == 0) = false := by simpa using hm
      clear hm
      go_wp2_with fail
      go_ret
      exact ⟨t, _, rfl, by omega, by omega, by omega, r3, G3.out⟩
theorem DrawSextetOf_calls (A : Option Addr) (c : Nat) (bs : List Int) (w : World) (hr : Rds w w.heap.size .u8 A bs) (hc : bs.length ≤ c) (hm : c ≤ maxLen) (hv : ∀ i, 0 ≤ bs.getD i 0 ∧ bs.getD i 0 ≤ 255) :
    Calls Tryd.prog 11 #[.slice A bs.length c] w fun e w' => ∃ a : Int, e = .returned (.int .i64 a) ∧ -1 ≤ a ∧ a ≤ 16777216 ∧ Below w.heap.size w w' := by
  go_enter Tryd.func11, Tryd.ntmps11
  go_wp2_with fail
  refine (l6Open_calls A c bs _ hr hc hm hv).mono ?_
  rintro e w1 ⟨g, rfl, hg, r1, b1⟩
  go_wp2_with fail
  refine (l92Tetrad_calls g 0 _ r1 (by omega)).mono ?_
  rintro e w2 ⟨a, q1, rfl, a0, a1, hq1, r2, g2⟩
  go_wp2_with fail
  go_ret
  exact ⟨a, rfl, a0, a1, b1.trans (grown_below g2 hg b1.size)⟩
theorem sxA_len6 (a : Int) : (sxA a).1.length ≤ 6 ∧ ((sxA a).2 = true → (sxA a).1.length = 6) := by
  unfold sxA
  split
  · rename_i h
    have := sxOf_len ((tetB_iff a).1 h)
    exact ⟨Nat.le_of_eq this, fun _ => this⟩
  · exact ⟨Nat.zero_le _, fun h => by cases h⟩
theorem pick_six (g q b c : Nat) (w W : World) (G0 : w.grownBy W (some g)) (xs : List Int) (B : Nat) (hg : g < B) (h6 : xs.length = 6) (ho : Own W B (.slice (some ⟨b, 0, none⟩) xs.length c) xs) (hr : Rd W g q) (hq : q ≤ 1048576) :
    Calls Tryd.prog 64 #[.pointer (some ⟨g, 0, none⟩), .int .i64 6] W fun e w2 => ∃ m : Nat, e = .returned (.int .i64 (m : Nat)) ∧ m < 6 ∧ w2.cell? ⟨b, m, none⟩ = some (.int .i64 (xs.getD m 0)) ∧ w2.frozen? ⟨b, m, none⟩ = false ∧ Hid (Own w2 B (.slice (some ⟨b, 0, none⟩) xs.length c) xs) ∧ Hid (Rd w2 g (q + 1)) ∧ Hid (w.grownBy w2 (some g)) := by
  refine (pick_calls g q 6 W hr hq (by omega) (by omega)).mono ?_
  rintro e w2 ⟨z, rfl, za, zb, r2, g2⟩
  have o2 := ho.grownG g2 hg
  obtain ⟨m, rfl⟩ := Int.eq_ofNat_of_zero_le za
  exact ⟨m, rfl, by omega, o2.cell (by omega), o2.free m, o2, r2, grown_trans G0 g2⟩
set_option maxRecDepth 100000 in
set_option maxHeartbeats 1000000 in
theorem l92Sextet_calls (g q : Nat) (w : World) (h : Rd w g q) (hq : q ≤ 500000) :
    Calls Tryd.prog 55 #[.pointer (some ⟨g, 0, none⟩)] w fun e w' => ∃ (v : Value) (xs : List Int) (q' : Nat), e = .returned v ∧ Own w' w.heap.size v xs ∧ xs.length ≤ 6 ∧ q' ≤ q + 70 ∧ Rd w' g q' ∧ w.grownBy w' (some g) := by
  have hlt : g < w.heap.size := by obtain ⟨A, c, bs, hbk, _⟩ := h; exact (Array.getElem?_eq_some_iff.1 hbk).1
  go_enter Tryd.func55, Tryd.ntmps55
  go_wp2_with fail
  refine (l92Tetrad_calls g q _ h (by omega)).mono ?_
  rintro e w1 ⟨a, q1, rfl, a0, a1, hq1, r1, g1⟩
  have HL := Lib.hid (sxA_len6 a)
  have HS := Lib.hid (sSextetOf_calls a w1)
  have hs1 := g1.size
  rcases hsx : sxA a with ⟨L, b⟩
  rw [hsx] at HL HS
  clear hsx
  dsimp only at HL HS
  go_wp2_with fail
  refine HS.out.mono ?_
  rintro e w2 ⟨v, rfl, o2, b2⟩
  have R2 := Lib.hid (r1.below b2)
  have G2 := Lib.hid (grown_trans g1 (below_grown b2 (some g)))
  have O2 := Lib.hid (o2.weak hs1)
  clear r1 g1 o2
  obtain ⟨HL1, HL2⟩ := HL.out
  clear HL
  cases b
  · go_wp2_with fail
    go_ret
    exact ⟨v, L, q1, rfl, O2.out, HL1, by omega, R2.out, G2.out⟩
  · have h6 := HL2 rfl
    obtain ⟨b, hv, hb1, hb2⟩ : ∃ b c, v = .slice (some ⟨b, 0, none⟩) L.length c ∧ w.heap.size ≤ b := by
      rcases O2.out.form with ⟨_, h0⟩ | ⟨b, c, e1, e2, _⟩
      · rw [h0] at h6; simp at h6
      · exact ⟨b, c, e1, e2⟩
    obtain ⟨c, rfl⟩ : ∃ c, v = .slice (some ⟨b, 0, none⟩) L.length c := ⟨_, hb1⟩
    clear hv hb1
    have H6 := Lib.hid h6
    have HP := Lib.hid (pick_calls g q1 20 w2 R2.out (by omega) (by omega) (by omega))
    have hl6 : ((L.length : Nat) : Int) = 6 := by omega
    clear h6 HL1 HL2
    generalize hn : L.length = n at *
    have HN := Lib.hid hn
    clear hn
    go_wp2_with fail
    refine HP.out.mono ?_
    rintro e w3 ⟨m, rfl, m0, m1, r3, g3⟩
    have O3 := Lib.hid (O2.out.grownG g3 hlt)
    have G3 := Lib.hid (grown_trans G2.out g3)
    have R3 := Lib.hid r3
    clear g3 r3
    by_cases hm : m = 0
    · subst hm
      have HPS := Lib.hid (pick_six g (q1 + 1) b c w w3 G3.out L w.heap.size hlt (by rw [HN.out]; exact H6.out) (by rw [HN.out]; exact O3.out) R3.out (by omega))
      rw [HN.out] at HPS
      go_wp2_with fail
      refine HPS.out.mono ?_
      rintro e w4 ⟨k, rfl, hk, hc, hf, o4, r4, g4⟩
      generalize L.getD k 0 = z at *
      have hk1 : (0 : Int) ≤ (k : Int) := by omega
      have hk2 : (k : Int) < (n : Int) := by omega
      go_wp2_with fail
      go_ret
      exact ⟨_, L.set k 15, q1 + 1 + 1, rfl, o4.out.set k 15, by rw [List.length_set, HN.out, H6.out]; exact Nat.le_refl _, by omega, r4.out.keep ((Below.refl _ _).setCell (p := ⟨b, k, none⟩) (by show g + 1 ≤ b; omega) _), grown_then_below g4.out ((Below.refl _ _).setCell (p := ⟨b, k, none⟩) hb2 _)⟩
    · have hm1 : (m == 0) = false := by simpa using hm
      clear hm
      go_wp2_with fail
      go_ret
      exact ⟨_, L, q1 + 1, rfl, O3.out, by rw [HN.out, H6.out]; exact Nat.le_refl _, by omega, R3.out, G3.out⟩
theorem DrawSextetValid_calls (A : Option Addr) (c : Nat) (bs : List Int) (w : World) (hr : Rds w w.heap.size .u8 A bs) (hc : bs.length ≤ c) (hm : c ≤ maxLen) (hv : ∀ i, 0 ≤ bs.getD i 0 ∧ bs.getD i 0 ≤ 255) :
    Calls Tryd.prog 17 #[.slice A bs.length c] w fun e w' => ∃ (v : Value) (xs : List Int), e = .returned v ∧ Own w' w.heap.size v xs ∧ xs.length ≤ 6 ∧ Below w.heap.size w w' := by
  go_enter Tryd.func17, Tryd.ntmps17
  go_wp2_with fail
  refine (l6Open_calls A c bs _ hr hc hm hv).mono ?_
  rintro e w1 ⟨g, rfl, hg, r1, b1⟩
  go_wp2_with fail
  refine (l92Sextet_calls g 0 _ r1 (by omega)).mono ?_
  rintro e w2 ⟨v, xs, q1, rfl, o2, hl, hq1, r2, g2⟩
  go_wp2_with fail
  go_ret
  exact ⟨v, xs, rfl, o2.weak b1.size, hl, b1.trans (grown_below g2 hg b1.size)⟩
set_option maxHeartbeats 1000000 in
theorem DrawSextetSum_calls (A : Option Addr) (c : Nat) (bs : List Int) (w : World) (hr : Rds w w.heap.size .u8 A bs) (hc : bs.length ≤ c) (hm : c ≤ maxLen) (hv : ∀ i, 0 ≤ bs.getD i 0 ∧ bs.getD i 0 ≤ 255) :
    Calls Tryd.prog 26 #[.slice A bs.length c] w fun e w' => ∃ a b : Int, e = .returned (.tuple #[.int .i64 a, .int .i64 b]) ∧ Below w.heap.size w w' := by
  go_enter Tryd.func26, Tryd.ntmps26
  go_wp2_with fail
  refine (l6Open_calls A c bs _ hr hc hm hv).mono ?_
  rintro e w1 ⟨g, rfl, hg, r1, b1⟩
  go_wp2_with fail
  refine (l91Places_calls g 0 6 _ r1 (by omega) (by omega) (by omega)).mono ?_
  rintro e w2 ⟨v, xs, q1, rfl, o2, hl, _, hq1, r2, g2⟩
  have HB2 := Lib.hid (b1.trans (grown_below g2 hg b1.size))
  have hl6 : xs.length = 6 := by omega
  obtain ⟨b, cc, rfl, hcc⟩ : ∃ b cc, v = .slice (some ⟨b, 0, none⟩) 6 cc ∧ 6 ≤ cc ∧ cc ≤ maxLen := by
    rcases o2.form with ⟨_, h0⟩ | ⟨b, c, e1, e2, _, h3, h4⟩
    · rw [h0] at hl6; simp at hl6
    · rw [hl6] at e1 h3
      exact ⟨b, c, e1, h3, h4⟩
  obtain ⟨hb0, hcell⟩ : b < w2.heap.size ∧ ∀ j, j < xs.length → w2.cell? ⟨b, 0 + j, none⟩ = some (.int .i64 (xs.getD j 0)) := by
    rcases o2.rds with h | ⟨b', o', e, h1, h2⟩
    · rw [h] at hl6; simp at hl6
    · cases e; exact ⟨h1, h2⟩
  have HS1 := Lib.hid (fun cx => sWordOf_calls (some ⟨b, 0, none⟩) cx (xs.take 4) w2 (Rds.takeN hb0 hcell (by omega)) (by rw [List.length_take]; unfold maxLen; omega))
  have HS2 := Lib.hid (fun cx => sWordOf_calls (some ⟨b, 0 + 2, none⟩) cx (xs.drop 2) w2 (Rds.dropN hb0 hcell) (by rw [List.length_drop]; unfold maxLen; omega))
  rw [show (xs.take 4).length = 4 by rw [List.length_take]; omega] at HS1
  rw [show (xs.drop 2).length = 4 by rw [List.length_drop]; omega] at HS2
  obtain ⟨t, u, ht, t0, t1⟩ := resW_w (xs.take 4)
  obtain ⟨t', u', ht', t0', t1'⟩ := resW_w (xs.drop 2)
  rw [ht] at HS1
  rw [ht'] at HS2
  obtain ⟨hcc1, hcc2⟩ := hcc
  unfold maxLen at hcc2
  have hi1 : (6 : Int) ≤ (cc : Int) := by omega
  clear ht ht' o2 hcell hl g2 b1 r1
  go_wp2_with fail
  refine (HS1.out _).mono ?_
  rintro e w' ⟨rfl, rfl⟩
  go_wp2_with fail
  refine (HS2.out _).mono ?_
  rintro e w' ⟨rfl, rfl⟩
  cases u
  · go_wp2_with fail
    refine (l92Tetrad_calls g _ _ r2 (by omega)).mono ?_
    rintro e w5 ⟨x, qx, rfl, x0, x1, hqx, r5, g5⟩
    have HB5 := Lib.hid (HB2.out.trans (grown_below g5 hg HB2.out.size))
    go_wp2_with fail
    refine (l92Tetrad_calls g _ _ r5 (by omega)).mono ?_
    rintro e w6 ⟨y, qy, rfl, y0, y1, hqy, r6, g6⟩
    have HB6 := Lib.hid (HB5.out.trans (grown_below g6 hg HB5.out.size))
    go_wp2_with fail
    go_ret2
    exact ⟨x, y, rfl, HB6.out⟩
  · cases u'
    · go_wp2_with fail
      refine (l92Tetrad_calls g _ _ r2 (by omega)).mono ?_
      rintro e w5 ⟨x, qx, rfl, x0, x1, hqx, r5, g5⟩
      have HB5 := Lib.hid (HB2.out.trans (grown_below g5 hg HB2.out.size))
      go_wp2_with fail
      refine (l92Tetrad_calls g _ _ r5 (by omega)).mono ?_
      rintro e w6 ⟨y, qy, rfl, y0, y1, hqy, r6, g6⟩
      have HB6 := Lib.hid (HB5.out.trans (grown_below g6 hg HB5.out.size))
      go_wp2_with fail
      go_ret2
      exact ⟨x, y, rfl, HB6.out⟩
    · go_wp2_with fail
      refine (pick_calls g q1 4 _ r2 (by omega) (by omega) (by omega)).mono ?_
      rintro e w3 ⟨m, rfl, m0, m1, r3, g3⟩
      have HB3 := Lib.hid (HB2.out.trans (grown_below g3 hg HB2.out.size))
      clear g3
      by_cases hm : 0 < m
      · go_wp2_with fail
        go_ret2
        exact ⟨t, t', rfl, HB3.out⟩
      · go_wp2_with fail
        refine (l92Tetrad_calls g _ _ r3 (by omega)).mono ?_
        rintro e w5 ⟨x, qx, rfl, x0, x1, hqx, r5, g5⟩
        have HB5 := Lib.hid (HB3.out.trans (grown_below g5 hg HB3.out.size))
        go_wp2_with fail
        refine (l92Tetrad_calls g _ _ r5 (by omega)).mono ?_
        rintro e w6 ⟨y, qy, rfl, y0, y1, hqy, r6, g6⟩
        have HB6 := Lib.hid (HB5.out.trans (grown_below g6 hg HB5.out.size))
        go_wp2_with fail
        go_ret2
        exact ⟨x, y, rfl, HB6.out⟩
end Go.Proofs.YtagniijhbiglaaaDoor
