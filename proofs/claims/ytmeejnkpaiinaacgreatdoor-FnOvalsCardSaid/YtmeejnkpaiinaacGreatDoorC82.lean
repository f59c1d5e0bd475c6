/- Sorting words by the library's own text: the pivot. -/
import Derived.Test.YtmeejnkpaiinaacGreatDoorC81
namespace Go.Proofs.YtmeejnkpaiinaacGreatDoor
open Go.RowKit Go.Sort
set_option linter.unusedVariables false

/-- A box that holds a number. -/
def Bx (W : World) (sb : Nat) (s : Nat) : Prop := W.heap[sb]? = some (.cells #[.int .i64 (s : Int)] 3 (0, 0))
theorem Bx.cell {W : World} {sb s : Nat} (h : Bx W sb s) : W.cell? ⟨sb, 0, none⟩ = some (.int .i64 (s : Int)) := by
  unfold Bx at h; simp [World.cell?, h]
theorem Bx.free {W : World} {sb s : Nat} (h : Bx W sb s) : W.frozen? ⟨sb, 0, none⟩ = false := Lib.frozen_of_heap h 0
theorem Bx.set {W : World} {sb s : Nat} (h : Bx W sb s) (s' : Nat) : Bx (W.setCell ⟨sb, 0, none⟩ (.int .i64 (s' : Int))) sb s' := by
  have := heap_setCell_same W sb 0 _ 3 (.int .i64 (s' : Int)) h
  unfold Bx
  rw [this]
  rfl
theorem RowB.trn {W W' : World} {g sb : Nat} {t : TypeId} {tl : Array Value} {d : Array Int} (h : RowB W g t tl d) (k : Trn sb W W') (hne : g ≠ sb) : RowB W' g t tl d :=
  (k.block g h.lt (fun e => hne (by injection e))).trans h
set_option maxRecDepth 100000 in
set_option maxHeartbeats 1000000 in
theorem wOrder2 (g c a b sb s n : Nat) (t : TypeId) (tl : Array Value) (d : Array Int) (w : World) (hd : d.size = n) (hR : RowB w g t tl d) (ha : a < n) (hb : b < n) (hn : n ≤ 100) (hs : Bx w sb s) (hs2 : s ≤ 1000) :
    Calls Tryz.prog 228 #[.slice (some ⟨g, 0, none⟩) n c, .int .i64 a, .int .i64 b, .pointer (some ⟨sb, 0, none⟩)] w fun e w' =>
      e = .returned (.tuple #[.int .i64 ((order2 ltInt d a b s).1 : Nat), .int .i64 ((order2 ltInt d a b s).2.1 : Nat)]) ∧ Bx w' sb (order2 ltInt d a b s).2.2 ∧ Trn sb w w' := by
  have hca := hR.cell (i := a) (by omega)
  have hcb := hR.cell (i := b) (by omega)
  have hcs := hs.cell
  have hfs := hs.free
  have HS := Lib.hid hs
  have haI : (a : Int) < (n : Int) := by omega
  have hbI : (b : Int) < (n : Int) := by omega
  have ha0 : (0 : Int) ≤ (a : Int) := by omega
  have hb0 : (0 : Int) ≤ (b : Int) := by omega
  cases hL : ltInt d[b]! d[a]!
  · rw [show order2 ltInt d a b s = (a, b, s) by unfold order2; rw [hL]; rfl]
    clear hR hd hs
    generalize d[a]! = xa at *
    generalize d[b]! = xb at *
    have HL := Lib.hid hL
    go_enter Tryz.func228, Tryz.ntmps228
    go_wp2_with fail
    go_quiet (first | (go_at_call 217; refine Calls.quiet_of_same (wLessV _ _ _ _ HL.out)))
    go_wp2_with fail
    go_ret2
    exact ⟨rfl, HS.out, (Trn.refl _ _).drewN _⟩
  · rw [show order2 ltInt d a b s = (b, a, s + 1) by unfold order2; rw [hL]; rfl]
    clear hR hd hs
    generalize d[a]! = xa at *
    generalize d[b]! = xb at *
    have HL := Lib.hid hL
    go_enter Tryz.func228, Tryz.ntmps228
    go_wp2_with fail
    go_quiet (first | (go_at_call 217; refine Calls.quiet_of_same (wLessV _ _ _ _ HL.out)))
    go_wp2_with fail
    go_ret2
    exact ⟨rfl, by have := Bx.set (W := w.drewN nq) HS.out (s + 1); simpa using this, ((Trn.refl _ _).set _ _).drewN _⟩
set_option maxRecDepth 100000 in
set_option maxHeartbeats 1000000 in
theorem wMedian (g c i j k sb s n : Nat) (t : TypeId) (tl : Array Value) (d : Array Int) (w : World) (hd : d.size = n) (hR : RowB w g t tl d) (hi : i < n) (hj : j < n) (hk : k < n) (hn : n ≤ 100) (hs : Bx w sb s) (hs2 : s ≤ 100) (hne : g ≠ sb) :
    Calls Tryz.prog 226 #[.slice (some ⟨g, 0, none⟩) n c, .int .i64 i, .int .i64 j, .int .i64 k, .pointer (some ⟨sb, 0, none⟩)] w fun e w' =>
      e = .returned (.int .i64 ((median ltInt d i j k s).1 : Nat)) ∧ Bx w' sb (median ltInt d i j k s).2 ∧ Trn sb w w' := by
  have m1 := order2_mem ltInt d i j s
  have c1 := order2_count ltInt d i j s
  have H1 := Lib.hid (wOrder2 g c i j sb s n t tl d w hd hR hi hj hn hs (by omega))
  generalize hr1 : order2 ltInt d i j s = r1 at *
  have m2 := order2_mem ltInt d r1.2.1 k r1.2.2
  have c2 := order2_count ltInt d r1.2.1 k r1.2.2
  have H2 := Lib.hid (fun W (hRW : RowB W g t tl d) (hsW : Bx W sb r1.2.2) => wOrder2 g c r1.2.1 k sb r1.2.2 n t tl d W hd hRW (by omega) hk hn hsW (by omega))
  generalize hr2 : order2 ltInt d r1.2.1 k r1.2.2 = r2 at *
  have H3 := Lib.hid (fun W (hRW : RowB W g t tl d) (hsW : Bx W sb r2.2.2) => wOrder2 g c r1.1 r2.1 sb r2.2.2 n t tl d W hd hRW (by omega) (by omega) hn hsW (by omega))
  generalize hr3 : order2 ltInt d r1.1 r2.1 r2.2.2 = r3 at *
  rw [show median ltInt d i j k s = (r3.2.1, r3.2.2) by unfold median; simp only [hr1, hr2, hr3]]
  have HR := Lib.hid hR
  have HNE := Lib.hid hne
  clear hr1 hr2 hr3 m1 m2 c1 c2 hR hs hne
  obtain ⟨x1, y1, z1⟩ := r1
  obtain ⟨x2, y2, z2⟩ := r2
  obtain ⟨x3, y3, z3⟩ := r3
  go_enter Tryz.func226, Tryz.ntmps226
  go_wp2_with fail
  refine H1.out.mono ?_
  rintro e w1 ⟨rfl, b1, t1⟩
  have HB1 := Lib.hid b1
  have HT1 := Lib.hid t1
  clear b1 t1
  go_wp2_with fail
  refine (H2.out w1 (HR.out.trn HT1.out HNE.out) HB1.out).mono ?_
  rintro e w2 ⟨rfl, b2, t2⟩
  have HB2 := Lib.hid b2
  have HT2 := Lib.hid (HT1.out.trans t2)
  clear b2 t2
  go_wp2_with fail
  refine (H3.out w2 (HR.out.trn HT2.out HNE.out) HB2.out).mono ?_
  rintro e w3 ⟨rfl, b3, t3⟩
  go_wp2_with fail
  go_ret
  exact ⟨rfl, b3, HT2.out.trans t3⟩
set_option maxRecDepth 100000 in
set_option maxHeartbeats 1000000 in
theorem wPivot (g c a b n : Nat) (t : TypeId) (tl : Array Value) (d : Array Int) (w : World) (hd : d.size = n) (hR : RowB w g t tl d) (hab : a + 13 ≤ b) (hb : b ≤ n) (hn : n ≤ 40) (hA : Apart a b d) :
    Calls Tryz.prog 214 #[.slice (some ⟨g, 0, none⟩) n c, .int .i64 a, .int .i64 b] w fun e w' =>
      ∃ (p h : Nat), e = .returned (.tuple #[.int .i64 p, .int .i64 h]) ∧ (a ≤ p ∧ p < b) ∧ (h = 0 ∨ h = 1) ∧ (∃ x y, (a ≤ x ∧ x < b) ∧ (a ≤ y ∧ y < b) ∧ ltInt d[x]! d[p]! = true ∧ ltInt d[p]! d[y]! = true) ∧ Below w.heap.size w w' := by
  obtain ⟨L, hL⟩ : ∃ L, b = a + L := ⟨b - a, by omega⟩
  obtain ⟨q, hq⟩ : ∃ q, L / 4 = q := ⟨_, rfl⟩
  have hq3 : 3 ≤ q := by omega
  obtain ⟨x, y, hx, hy, h1, h2, h3⟩ := median_mid d a b (a + q) (a + q * 2) (a + q * 3) 0 hA (by omega) (by omega) (by omega) (by omega)
  have hm := median_mem ltInt d (a + q) (a + q * 2) (a + q * 3) 0
  have HM0 := fun W sb (hRW : RowB W g t tl d) (hsW : Bx W sb 0) (hne : g ≠ sb) => wMedian g c (a + q) (a + q * 2) (a + q * 3) sb 0 n t tl d W hd hRW (by omega) (by omega) (by omega) (by omega) hsW (by omega) hne
  generalize (median ltInt d (a + q) (a + q * 2) (a + q * 3) 0).1 = p at *
  generalize (median ltInt d (a + q) (a + q * 2) (a + q * 3) 0).2 = z at *
  rw [show ((a + q : Nat) : Int) = (a : Int) + (q : Int) by omega, show ((a + q * 2 : Nat) : Int) = (a : Int) + (q : Int) * 2 by omega, show ((a + q * 3 : Nat) : Int) = (a : Int) + (q : Int) * 3 by omega] at HM0
  have HM := Lib.hid HM0
  have HFIN := Lib.hid (show (a ≤ p ∧ p < b) ∧ ∃ x y, (a ≤ x ∧ x < b) ∧ (a ≤ y ∧ y < b) ∧ ltInt d[x]! d[p]! = true ∧ ltInt d[p]! d[y]! = true from ⟨by omega, x, y, hx, hy, h1, h2⟩)
  have HR := Lib.hid hR
  have eL : (b : Int) - (a : Int) = (L : Int) := by omega
  have eq4 : (L : Int) / 4 = (q : Int) := by omega
  have l8 : (8 : Int) ≤ (L : Int) := by omega
  have l50 : (L : Int) < 50 := by omega
  have lb : (b : Int) ≤ 40 := by omega
  have la : (a : Int) + (q : Int) * 3 ≤ 40 := by omega
  have lq0 : (0 : Int) ≤ (q : Int) := by omega
  have hz3 : (z : Int) ≤ 3 := by omega
  have hz0 : (0 : Int) ≤ (z : Int) := by omega
  have hHR : g < w.heap.size := HR.out.lt
  clear hR hm h1 h2 hx hy hA HM0 hL hq hq3 hab hb hd hn h3
  go_enter Tryz.func214, Tryz.ntmps214
  go_wp2_with fail
  have hnb : Bx (w.alloc (.cells #[.int .i64 0] 3)) w.heap.size 0 := heap_alloc_new w _
  have hbb : Below w.heap.size w (w.alloc (.cells #[.int .i64 0] 3)) := (Below.refl _ w).alloc (Nat.le_refl _) _
  refine (HM.out _ w.heap.size (HR.out.below hbb) hnb (by omega)).mono ?_
  rintro e w1 ⟨rfl, b1, t1⟩
  have HB := Lib.hid (show Below w.heap.size w w1 from hbb.trans ⟨t1.os, t1.tape, t1.output, t1.size, fun k hk => t1.block k (by simp; omega) (fun e => by injection e; omega)⟩)
  have hc1 := b1.cell
  clear hnb hbb t1 b1
  by_cases hz : z = 0
  · subst hz
    go_wp2_with fail
    go_ret2
    exact ⟨p, 1, rfl, HFIN.out.1, .inr rfl, HFIN.out.2, HB.out⟩
  · have hz1 : ¬ (z : Int) = 0 := by omega
    have hz12 : ¬ (z : Int) = 12 := by omega
    have hzb : ((z : Int) == 0) = false := by simpa using hz
    have hzb2 : ((z : Int) == 12) = false := by simpa using hz12
    go_wp2_with fail
    go_ret2
    exact ⟨p, 0, rfl, HFIN.out.1, .inl rfl, HFIN.out.2, HB.out⟩
end Go.Proofs.YtmeejnkpaiinaacGreatDoor
