/- Drawing vectors. -/
import Derived.Test.YtmeejnkpaiinaabDoorC168
import Derived.Test.YtmeejnkpaiinaabDoorC42
import Derived.Test.YtmeejnkpaiinaabDoorC18
import Derived.Deep.RegionHeld3
namespace Go.Proofs.YtmeejnkpaiinaabDoor
open Go.RowKit
set_option linter.unusedVariables false
set_option linter.unusedSimpArgs false
attribute [local irreducible] cN syn octS octF

/-- What is held while a vector is drawn: the list, the reader. -/
def VSt (w : World) (g q : Nat) (out : List Int) (W : World) : Prop :=
  out.length = 24 ∧ Own W w.heap.size (.slice (some ⟨w.heap.size, 0, none⟩) 24 24) out ∧ (∃ q', q' ≤ q ∧ Rd W g q') ∧ w.grownBy W (some g)
theorem VSt.grown {w W W2 : World} {g q q2 qn : Nat} {out : List Int} (h : VSt w g q out W) (hg : g < w.heap.size) (hr : Rd W2 g q2) (hq : q2 ≤ qn) (hG : W.grownBy W2 (some g)) : VSt w g qn out W2 :=
  ⟨h.1, h.2.1.grownG hG hg, ⟨q2, hq, hr⟩, grown_trans h.2.2.2 hG⟩
theorem VSt.below {w W W2 : World} {g q : Nat} {out : List Int} (h : VSt w g q out W) (hb : Below W.heap.size W W2) : VSt w g q out W2 := by
  obtain ⟨h1, h2, ⟨q', hq, hr⟩, h4⟩ := h
  exact ⟨h1, h2.below hb, ⟨q', hq, hr.below hb⟩, grown_trans h4 (below_grown hb (some g))⟩
theorem VSt.set {w W : World} {g q : Nat} {out : List Int} (h : VSt w g q out W) (hg : g < w.heap.size) (k : Nat) (x : Int) : VSt w g q (out.set k x) (W.setCell ⟨w.heap.size, k, none⟩ (.int .i64 x)) := by
  obtain ⟨h1, h2, ⟨q', hq, hr⟩, h4⟩ := h
  have hb : Below w.heap.size W (W.setCell ⟨w.heap.size, k, none⟩ (.int .i64 x)) := (Below.refl _ W).setCell (p := ⟨w.heap.size, k, none⟩) (Nat.le_refl _) _
  exact ⟨by rw [List.length_set]; exact h1, h2.set k x, ⟨q', hq, hr.keep (hb.mono hg)⟩, grown_then_below h4 hb⟩
theorem VSt.drew {w W : World} {g q : Nat} {out : List Int} (h : VSt w g q out W) : VSt w g q out W.drew :=
  h.below ((Below.refl _ W).drew)
theorem VSt.more {w W : World} {g q q2 : Nat} {out : List Int} (h : VSt w g q out W) (hq : q ≤ q2) : VSt w g q2 out W := by
  obtain ⟨h1, h2, ⟨q', hq', hr⟩, h4⟩ := h
  exact ⟨h1, h2, ⟨q', by omega, hr⟩, h4⟩
theorem lvOct_24 {n s : Int} (h : (lvOct n s).2 = true) : (lvOct n s).1.length = 24 := by
  unfold lvOct at *
  split at h <;> simp_all [vL_len]
theorem lvThree_24 {n s : Int} (h : (lvThree n s).2 = true) : (lvThree n s).1.length = 24 := by
  unfold lvThree at *
  split at h <;> simp_all [vL_len]
theorem lvFour_24 {n s : Int} {f g : Bool} (h : (lvFour n s f g).2 = true) : (lvFour n s f g).1.length = 24 := by
  unfold lvFour at *
  split at h <;> simp_all [vL_len]
set_option maxRecDepth 100000 in
set_option maxHeartbeats 4000000 in
theorem l92Vector_calls (g q : Nat) (w : World) (h : Rd w g q) (hq : q ≤ 500000) :
    Calls Tryd.prog 33 #[.pointer (some ⟨g, 0, none⟩)] w fun e w' => ∃ (v : Value) (xs : List Int) (q' : Nat), e = .returned v ∧ Own w' w.heap.size v xs ∧ xs.length ≤ 24 ∧ q' ≤ q + 400 ∧ Rd w' g q' ∧ w.grownBy w' (some g) := by
  have hg := h.lt
  have HM := mk24L
  have b0 : Below w.heap.size w (w.alloc (.cells (VL z24) 3)) := (Below.refl w.heap.size w).alloc (Nat.le_refl _) _
  have HS0 := Lib.hid (show VSt w g q z24 (w.alloc (.cells (VL z24) 3)) from ⟨rfl, own_24L z24 rfl (heap_alloc_new w _) (Nat.le_refl _), ⟨q, Nat.le_refl _, h.below b0⟩, below_grown b0 _⟩)
  clear h b0
  go_enter Tryd.func33, Tryd.ntmps33
  go_wp2_with fail
  obtain ⟨q0, hq0, r0⟩ := HS0.out.2.2.1
  refine (pick_calls g q0 3 _ r0 (by omega) (by omega) (by omega)).mono ?_
  rintro e w1 ⟨n, rfl, n0, n1, r1, g1⟩
  have HS1 := Lib.hid (HS0.out.grown hg r1 (show q0 + 1 ≤ q + 1 by omega) g1)
  clear HS0 r0 r1 g1 hq0
  go_wp2_with fail
  obtain ⟨N, hN⟩ : ∃ N : Nat, 1 + n = (N : Int) := ⟨(1 + n).toNat, by omega⟩
  rw [hN]
  have hN3 : N ≤ 3 := by omega
  clear hN n0 n1
  go_loopw [5] (fun i wr => ∃ (k : Nat) (out : List Int), k ≤ N ∧ i = .int .i64 k ∧ Hid (VSt w g (q + 1 + 100 * k) out wr)) (fun i _ => N - (intOf i).toNat)
  case atStart => exact ⟨0, z24, by omega, rfl, HS1⟩
  case round =>
    obtain ⟨k, out, hk, rfl, hs⟩ := hrel
    obtain ⟨V4, hV4⟩ : ∃ V, V = wr := ⟨_, rfl⟩
    subst hV4
    clear HS1
    by_cases hlt : k < N
    · have hkN : (k : Int) < (N : Int) := by omega
      have bA : Below V4.heap.size V4 (V4.alloc (.cells #[] 3)) := (Below.refl _ _).alloc (Nat.le_refl _) _
      have HA := Lib.hid (hs.out.below bA)
      have hsz4 := hs.out.2.2.2.size
      have hsz5 : w.heap.size + 1 ≤ V4.heap.size := own_lt hs.out.2.1
      have HNX := Lib.hid (own_empty2 V4 (w.heap.size + 1) hsz5)
      clear bA hs
      go_wp2_with fail
      obtain ⟨q1, hq1, r1⟩ := HA.out.2.2.1
      refine (pick_calls g q1 4 _ r1 (by omega) (by omega) (by omega)).mono ?_
      rintro e w2 ⟨a, rfl, a0, a1, r2, g2⟩
      have HB := Lib.hid (HA.out.grown hg r2 (show q1 + 1 ≤ q + 2 + 100 * k by omega) g2)
      have HNB := Lib.hid (HNX.out.grownG g2 (show g < w.heap.size + 1 by omega))
      have hszB : w.heap.size + 1 ≤ w2.heap.size := own_lt HB.out.2.1
      clear HA HNX r1 r2 g2 hq1 hsz4 hsz5
      have ha : a = 0 ∨ a = 1 ∨ a = 2 ∨ a = 3 := by omega
      clear a0 a1
      rcases ha with rfl | rfl | rfl | rfl
      · go_wp2_with fail
        obtain ⟨q2, hq2, r2⟩ := HB.out.2.2.1
        refine (l91Octad_calls g q2 w2 r2 (by omega)).mono ?_
        rintro e w3 ⟨x, q3, rfl, x0, x1, hq3, r3, g3⟩
        have HB3 := Lib.hid (HB.out.grown hg r3 (show q3 ≤ q + 62 + 100 * k by omega) g3)
        clear r2 g3 r3 hq2 hq3
        go_wp2_with fail
        obtain ⟨q2, hq2, r2⟩ := HB3.out.2.2.1
        refine (pick_calls g q2 128 _ r2 (by omega) (by omega) (by omega)).mono ?_
        rintro e w4 ⟨y, rfl, y0, y1, r4, g4⟩
        have HD := Lib.hid (HB3.out.grown hg r4 (show q2 + 1 ≤ q + 63 + 100 * k by omega) g4)
        clear r2 r4 g4 HB3 hq2
        go_wp2_with fail
        refine (sLatticeOctad_calls x y w4).mono ?_
        rintro e w5 ⟨v, rfl, o5, b5⟩
        have HC := Lib.hid ((HD.out.below b5).more (show q + 63 + 100 * k ≤ q + 90 + 100 * k by omega))
        have hszD : w.heap.size + 1 ≤ w4.heap.size := own_lt HD.out.2.1
        have HN5 := Lib.hid (o5.weak hszD)
        have hok := (fun h => lvOct_24 (n := x) (s := y) h)
        generalize hA : lvOct x y = AN at *
        clear hA o5 b5 HD hszB hszD HNB HB
        obtain ⟨nl, ok⟩ := AN
        dsimp only at *
        cases ok
        · go_wp2_with fail
          go_loopw [8] (fun j wr => j = .int .i64 0 ∧ w5 = wr) (fun _ _ => 0)
          case atStart => exact ⟨rfl, rfl⟩
          case round =>
            obtain ⟨rfl, hw5⟩ := hrel
            subst hw5
            go_wp2_with fail
            go_roundw
            case rel => exact ⟨k + 1, out, by omega, by go_num, Lib.hid (HC.out.more (by omega))⟩
            case measure => simp [intOf]; omega
        · have HNL := Lib.hid (hok rfl)
          obtain ⟨A7, cn, rfl⟩ := HN5.out.slice
          rw [HNL.out] at HN5 ⊢
          obtain ⟨gn, rfl, hgn1, hgn2⟩ := own_at HN5.out (by decide)
          go_wp2_with fail
          go_loopw [8] (fun j wr => ∃ (p : Nat) (out2 : List Int), p ≤ 24 ∧ j = .int .i64 p ∧ Hid (VSt w g (q + 90 + 100 * k) out2 wr) ∧ Hid (Own wr (w.heap.size + 1) (.slice (some ⟨gn, 0, none⟩) 24 cn) nl)) (fun j _ => 24 - (intOf j).toNat)
          case atStart => exact ⟨0, out, by omega, rfl, HC, HN5⟩
          case round =>
            obtain ⟨p, out2, hp, rfl, hs2, hn2⟩ := hrel
            clear HC HN5
            by_cases hp2 : p < 24
            · have hp3 : (p : Int) < 24 := by omega
              have cx := hs2.out.2.1.cell (j := p) (by have := hs2.out.1; omega)
              have fx := hs2.out.2.1.free p
              have cy := hn2.out.cell (j := p) (by rw [HNL.out]; exact hp2)
              have HOF := Lib.hid (fun u => hn2.out.set_far (p := ⟨w.heap.size, p, none⟩) (by simp [Value.ownBlock]; omega) u)
              generalize out2.getD p 0 = x at *
              generalize nl.getD p 0 = y at *
              go_wp2_with fail
              go_region
              all_goals
                go_wp2_with fail
                go_roundw
                case rel => exact ⟨p + 1, _, by omega, by go_num, Lib.hid (by first | exact (hs2.out.set hg p _).drew | exact hs2.out.drew.set hg p _ | exact hs2.out.set hg p _), Lib.hid (by exact HOF.out _)⟩
                case measure => simp [intOf]; omega
            · obtain rfl : p = 24 := by omega
              go_wp2_with fail
              go_roundw
              case rel => exact ⟨k + 1, out2, by omega, by go_num, Lib.hid (hs2.out.more (by omega))⟩
              case measure => simp [intOf]; omega
      · go_wp2_with fail
        obtain ⟨q2, hq2, r2⟩ := HB.out.2.2.1
        refine (l91Code_calls g q2 w2 r2 (by omega)).mono ?_
        rintro e w3 ⟨x, rfl, x0, x1, r3, g3⟩
        have HB3 := Lib.hid (HB.out.grown hg r3 (show q2 + 2 ≤ q + 62 + 100 * k by omega) g3)
        clear r2 g3 r3 hq2
        go_wp2_with fail
        obtain ⟨q2, hq2, r2⟩ := HB3.out.2.2.1
        refine (pick_calls g q2 24 _ r2 (by omega) (by omega) (by omega)).mono ?_
        rintro e w4 ⟨y, rfl, y0, y1, r4, g4⟩
        have HD := Lib.hid (HB3.out.grown hg r4 (show q2 + 1 ≤ q + 63 + 100 * k by omega) g4)
        clear r2 r4 g4 HB3 hq2
        go_wp2_with fail
        refine (sLatticeThree_calls x y w4).mono ?_
        rintro e w5 ⟨v, rfl, o5, b5⟩
        have HC := Lib.hid ((HD.out.below b5).more (show q + 63 + 100 * k ≤ q + 90 + 100 * k by omega))
        have hszD : w.heap.size + 1 ≤ w4.heap.size := own_lt HD.out.2.1
        have HN5 := Lib.hid (o5.weak hszD)
        have hok := (fun h => lvThree_24 (n := x) (s := y) h)
        generalize hA : lvThree x y = AN at *
        clear hA o5 b5 HD hszB hszD HNB HB
        obtain ⟨nl, ok⟩ := AN
        dsimp only at *
        cases ok
        · go_wp2_with fail
          go_loopw [8] (fun j wr => j = .int .i64 0 ∧ w5 = wr) (fun _ _ => 0)
          case atStart => exact ⟨rfl, rfl⟩
          case round =>
            obtain ⟨rfl, hw5⟩ := hrel
            subst hw5
            go_wp2_with fail
            go_roundw
            case rel => exact ⟨k + 1, out, by omega, by go_num, Lib.hid (HC.out.more (by omega))⟩
            case measure => simp [intOf]; omega
        · have HNL := Lib.hid (hok rfl)
          obtain ⟨A7, cn, rfl⟩ := HN5.out.slice
          rw [HNL.out] at HN5 ⊢
          obtain ⟨gn, rfl, hgn1, hgn2⟩ := own_at HN5.out (by decide)
          go_wp2_with fail
          go_loopw [8] (fun j wr => ∃ (p : Nat) (out2 : List Int), p ≤ 24 ∧ j = .int .i64 p ∧ Hid (VSt w g (q + 90 + 100 * k) out2 wr) ∧ Hid (Own wr (w.heap.size + 1) (.slice (some ⟨gn, 0, none⟩) 24 cn) nl)) (fun j _ => 24 - (intOf j).toNat)
          case atStart => exact ⟨0, out, by omega, rfl, HC, HN5⟩
          case round =>
            obtain ⟨p, out2, hp, rfl, hs2, hn2⟩ := hrel
            clear HC HN5
            by_cases hp2 : p < 24
            · have hp3 : (p : Int) < 24 := by omega
              have cx := hs2.out.2.1.cell (j := p) (by have := hs2.out.1; omega)
              have fx := hs2.out.2.1.free p
              have cy := hn2.out.cell (j := p) (by rw [HNL.out]; exact hp2)
              have HOF := Lib.hid (fun u => hn2.out.set_far (p := ⟨w.heap.size, p, none⟩) (by simp [Value.ownBlock]; omega) u)
              generalize out2.getD p 0 = x at *
              generalize nl.getD p 0 = y at *
              go_wp2_with fail
              go_region
              all_goals
                go_wp2_with fail
                go_roundw
                case rel => exact ⟨p + 1, _, by omega, by go_num, Lib.hid (by first | exact (hs2.out.set hg p _).drew | exact hs2.out.drew.set hg p _ | exact hs2.out.set hg p _), Lib.hid (by exact HOF.out _)⟩
                case measure => simp [intOf]; omega
            · obtain rfl : p = 24 := by omega
              go_wp2_with fail
              go_roundw
              case rel => exact ⟨k + 1, out2, by omega, by go_num, Lib.hid (hs2.out.more (by omega))⟩
              case measure => simp [intOf]; omega
      · go_wp2_with fail
        obtain ⟨q2, hq2, r2⟩ := HB.out.2.2.1
        refine (pick_calls g q2 24 _ r2 (by omega) (by omega) (by omega)).mono ?_
        rintro e w3 ⟨x, rfl, x0, x1, r3, g3⟩
        have HB3 := Lib.hid (HB.out.grown hg r3 (show q2 + 1 ≤ q + 60 + 100 * k by omega) g3)
        clear r2 g3 r3 hq2
        go_wp2_with fail
        obtain ⟨q2, hq2, r2⟩ := HB3.out.2.2.1
        refine (pick_calls g q2 24 _ r2 (by omega) (by omega) (by omega)).mono ?_
        rintro e w4 ⟨y, rfl, y0, y1, r4, g4⟩
        have HB4 := Lib.hid (HB3.out.grown hg r4 (show q2 + 1 ≤ q + 61 + 100 * k by omega) g4)
        clear r2 r4 g4 HB3 hq2
        go_wp2_with fail
        obtain ⟨q2, hq2, r2⟩ := HB4.out.2.2.1
        refine (pick_calls g q2 2 _ r2 (by omega) (by omega) (by omega)).mono ?_
        rintro e w6 ⟨f1, rfl, _, _, r4, g4⟩
        have HB6 := Lib.hid (HB4.out.grown hg r4 (show q2 + 1 ≤ q + 62 + 100 * k by omega) g4)
        clear r2 r4 g4 HB4 hq2
        go_wp2_with fail
        obtain ⟨q2, hq2, r2⟩ := HB6.out.2.2.1
        refine (pick_calls g q2 2 _ r2 (by omega) (by omega) (by omega)).mono ?_
        rintro e w7 ⟨f2, rfl, _, _, r4, g4⟩
        have HD := Lib.hid (HB6.out.grown hg r4 (show q2 + 1 ≤ q + 63 + 100 * k by omega) g4)
        clear r2 r4 g4 HB6 hq2
        go_wp2_with fail
        refine (sLatticeFour_calls x y (f1 == 0) (f2 == 0) w7).mono ?_
        rintro e w5 ⟨v, rfl, o5, b5⟩
        have HC := Lib.hid ((HD.out.below b5).more (show q + 63 + 100 * k ≤ q + 90 + 100 * k by omega))
        have hszD : w.heap.size + 1 ≤ w7.heap.size := own_lt HD.out.2.1
        have HN5 := Lib.hid (o5.weak hszD)
        have hok := (fun h => lvFour_24 (n := x) (s := y) (f := (f1 == 0)) (g := (f2 == 0)) h)
        generalize hA : lvFour x y (f1 == 0) (f2 == 0) = AN at *
        clear hA o5 b5 HD hszB hszD HNB HB
        obtain ⟨nl, ok⟩ := AN
        dsimp only at *
        cases ok
        · go_wp2_with fail
          go_loopw [8] (fun j wr => j = .int .i64 0 ∧ w5 = wr) (fun _ _ => 0)
          case atStart => exact ⟨rfl, rfl⟩
          case round =>
            obtain ⟨rfl, hw5⟩ := hrel
            subst hw5
            go_wp2_with fail
            go_roundw
            case rel => exact ⟨k + 1, out, by omega, by go_num, Lib.hid (HC.out.more (by omega))⟩
            case measure => simp [intOf]; omega
        · have HNL := Lib.hid (hok rfl)
          obtain ⟨A7, cn, rfl⟩ := HN5.out.slice
          rw [HNL.out] at HN5 ⊢
          obtain ⟨gn, rfl, hgn1, hgn2⟩ := own_at HN5.out (by decide)
          go_wp2_with fail
          go_loopw [8] (fun j wr => ∃ (p : Nat) (out2 : List Int), p ≤ 24 ∧ j = .int .i64 p ∧ Hid (VSt w g (q + 90 + 100 * k) out2 wr) ∧ Hid (Own wr (w.heap.size + 1) (.slice (some ⟨gn, 0, none⟩) 24 cn) nl)) (fun j _ => 24 - (intOf j).toNat)
          case atStart => exact ⟨0, out, by omega, rfl, HC, HN5⟩
          case round =>
            obtain ⟨p, out2, hp, rfl, hs2, hn2⟩ := hrel
            clear HC HN5
            by_cases hp2 : p < 24
            · have hp3 : (p : Int) < 24 := by omega
              have cx := hs2.out.2.1.cell (j := p) (by have := hs2.out.1; omega)
              have fx := hs2.out.2.1.free p
              have cy := hn2.out.cell (j := p) (by rw [HNL.out]; exact hp2)
              have HOF := Lib.hid (fun u => hn2.out.set_far (p := ⟨w.heap.size, p, none⟩) (by simp [Value.ownBlock]; omega) u)
              generalize out2.getD p 0 = x at *
              generalize nl.getD p 0 = y at *
              go_wp2_with fail
              go_region
              all_goals
                go_wp2_with fail
                go_roundw
                case rel => exact ⟨p + 1, _, by omega, by go_num, Lib.hid (by first | exact (hs2.out.set hg p _).drew | exact hs2.out.drew.set hg p _ | exact hs2.out.set hg p _), Lib.hid (by exact HOF.out _)⟩
                case measure => simp [intOf]; omega
            · obtain rfl : p = 24 := by omega
              go_wp2_with fail
              go_roundw
              case rel => exact ⟨k + 1, out2, by omega, by go_num, Lib.hid (hs2.out.more (by omega))⟩
              case measure => simp [intOf]; omega
      · have HC := Lib.hid (HB.out.more (show q + 2 + 100 * k ≤ q + 90 + 100 * k by omega))
        clear HB
        generalize w2 = w5 at *
        go_wp2_with fail
        go_loopw [8] (fun j wr => j = .int .i64 0 ∧ w5 = wr) (fun _ _ => 0)
        case atStart => exact ⟨rfl, rfl⟩
        case round =>
          obtain ⟨rfl, hw5⟩ := hrel
          subst hw5
          go_wp2_with fail
          go_roundw
          case rel => exact ⟨k + 1, out, by omega, by go_num, Lib.hid (HC.out.more (by omega))⟩
          case measure => simp [intOf]; omega
    · obtain rfl : k = N := by omega
      have HE := Lib.hid (hs.out.more (show q + 1 + 100 * k ≤ q + 301 by omega))
      clear hs
      go_wp2_with fail
      obtain ⟨q1, hq1, r1⟩ := HE.out.2.2.1
      refine (pick_calls g q1 16 _ r1 (by omega) (by omega) (by omega)).mono ?_
      rintro e w2 ⟨a, rfl, a0, a1, r2, g2⟩
      have HB := Lib.hid (HE.out.grown hg r2 (show q1 + 1 ≤ q + 302 by omega) g2)
      clear HE r1 r2 g2 hq1
      by_cases h0 : a = 0
      · subst h0
        go_wp2_with fail
        obtain ⟨q1, hq1, r1⟩ := HB.out.2.2.1
        refine (pick_calls g q1 24 _ r1 (by omega) (by omega) (by omega)).mono ?_
        rintro e w3 ⟨x, rfl, x0, x1, r2, g2⟩
        have HC := Lib.hid (HB.out.grown hg r2 (show q1 + 1 ≤ q + 303 by omega) g2)
        clear HB r1 r2 g2 hq1
        go_wp2_with fail
        obtain ⟨q1, hq1, r1⟩ := HC.out.2.2.1
        refine (pick_calls g q1 9 _ r1 (by omega) (by omega) (by omega)).mono ?_
        rintro e w4 ⟨y, rfl, y0, y1, r2, g2⟩
        have HD := Lib.hid (HC.out.grown hg r2 (show q1 + 1 ≤ q + 304 by omega) g2)
        clear HC r1 r2 g2 hq1
        obtain ⟨X, rfl⟩ := Int.eq_ofNat_of_zero_le x0
        have cx := HD.out.2.1.cell (j := X) (by have := HD.out.1; omega)
        have fx := HD.out.2.1.free X
        have HZ := Lib.hid (fun z => HD.out.set hg X z)
        generalize out.getD X 0 = z at *
        go_wp2_with fail
        go_ret
        obtain ⟨h1, h2, ⟨q9, hq9, r9⟩, h4⟩ := HZ.out _
        exact ⟨_, _, q9, rfl, h2, by omega, by omega, r9, h4⟩
      have e0 : (a == 0) = false := by simpa using h0
      by_cases h1 : a = 1
      · subst h1
        have cx := HB.out.2.1.cell (j := 0) (by have := HB.out.1; omega)
        have fx := HB.out.2.1.free 0
        have HZ := Lib.hid (fun z => HB.out.set hg 0 z)
        generalize out.getD 0 0 = z at *
        go_wp2_with fail
        go_ret
        obtain ⟨h1, h2, ⟨q9, hq9, r9⟩, h4⟩ := HZ.out _
        exact ⟨_, _, q9, rfl, h2, by omega, by omega, r9, h4⟩
      have e1 : (a == 1) = false := by simpa using h1
      by_cases h2 : a = 2
      · subst h2
        obtain ⟨h1, h2, ⟨q9, hq9, r9⟩, h4⟩ := HB.out
        have h5 := h2.cut (m := 23) (by omega)
        have h6 : (out.take 23).length = 23 := by rw [List.length_take, h1]; rfl
        have HZ := Lib.hid h5
        have HR := Lib.hid r9
        have HG := Lib.hid h4
        clear h1 h2 h4 h5 r9 HB
        go_wp2_with fail
        go_ret
        exact ⟨_, _, q9, rfl, HZ.out, by omega, by omega, HR.out, HG.out⟩
      have e2 : (a == 2) = false := by simpa using h2
      go_wp2_with fail
      go_ret
      obtain ⟨h1, h2, ⟨q9, hq9, r9⟩, h4⟩ := HB.out
      exact ⟨_, _, q9, rfl, h2, by omega, by omega, r9, h4⟩
end Go.Proofs.YtmeejnkpaiinaabDoor
