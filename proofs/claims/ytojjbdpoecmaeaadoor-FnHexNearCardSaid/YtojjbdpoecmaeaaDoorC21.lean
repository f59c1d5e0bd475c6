/- Contracts of the exported functions of chapter 2 that go through the table. -/
import Derived.Test.YtojjbdpoecmaeaaDoorC20
namespace Go.Proofs.YtojjbdpoecmaeaaDoor
open Go.RowKit
set_option linter.unusedVariables false

def digB (n : Int) : Bool := decide (0 ≤ n ∧ n ≤ 3)
theorem digB_iff (n : Int) : digB n = true ↔ IsD n := by simp [digB, IsD]
theorem digB_no (n : Int) : digB n = false ↔ NoD n := by unfold digB NoD; simp; omega
def dMul (a b : Int) : Int := if digB a && digB b then mulD a b else -1
def hOf (a b c : Int) : List Int × Bool := if digB a && (digB b && digB c) then (hexRow a b c, true) else ([], false)
def hIn (xs : List Int) : Bool := rowB xs && hexB xs
def hTimes (xs : List Int) (n : Int) : List Int × Bool := if rowB xs && digB n then (mulR xs n, true) else ([], false)
def hInner (xs ys : List Int) : Int := if rowB xs && rowB ys then innR xs ys else -1
def hNear (xs : List Int) : List Int × Int × Bool := if rowB xs then ((nearTo xs 64).1, (nearTo xs 64).2, true) else ([], 0, false)
def GotLN (w : World) (xs : List Int) (n : Int) (b : Bool) (e : Ending) (w' : World) : Prop := ∃ v, e = .returned (.tuple #[v, .int .i64 n, .bool b]) ∧ Own w' w.heap.size v xs ∧ Below w.heap.size w w'
theorem iDigitTimes_calls (a b : Int) (w : World) (hT : Tab w) :
    Calls Tryd.prog 17 #[.int .i64 a, .int .i64 b] w fun e w' => e = .returned (.int .i64 (dMul a b)) ∧ Below w.heap.size w w' := by
  by_cases h : digB a = true ∧ digB b = true
  · have ha := (digB_iff a).1 h.1
    have hb := (digB_iff b).1 h.2
    rw [show dMul a b = mulD a b by simp [dMul, h]]
    obtain ⟨x0, x1⟩ := mulD_d ha hb
    clear h
    go_enter Tryd.func17, Tryd.ntmps17
    go_wp2_with (first
      | (go_at_call 45; refine (twoDigitsFrom_ok _ _ _ ha hb).mono ?_; rintro e w' ⟨rfl, rfl⟩)
      | (go_at_call 46; refine (digit_times _ _ _ ha hb hT).mono ?_; rintro e w' ⟨rfl, rfl⟩))
    go_ret
    exact ⟨rfl, Below.refl _ _⟩
  · rw [show dMul a b = -1 by simp only [dMul]; rw [if_neg (by simpa using h)]]
    have hn : NoD a ∨ NoD b := by
      rw [← digB_no, ← digB_no]
      cases ha : digB a <;> cases hb : digB b <;> simp_all
    clear h
    go_enter Tryd.func17, Tryd.ntmps17
    go_wp2_with (go_at_call 45; refine (twoDigitsFrom_no _ _ _ hn).mono ?_; rintro e w' ⟨rfl, rfl⟩)
    go_ret
    exact ⟨rfl, Below.refl _ _⟩
set_option maxHeartbeats 1000000 in
theorem iHexOf_calls (a b c : Int) (w : World) (hT : Tab w) :
    Calls Tryd.prog 21 #[.int .i64 a, .int .i64 b, .int .i64 c] w (GotL w (hOf a b c).1 (hOf a b c).2) := by
  rcases isD_or a with ha | ha
  rcases isD_or b with hb | hb
  rcases isD_or c with hc | hc
  · rw [show hOf a b c = (hexRow a b c, true) by simp [hOf, (digB_iff _).2 ha, (digB_iff _).2 hb, (digB_iff _).2 hc]]
    have f1 := hexF_d (x := 1) ha hb hc ⟨by omega, by omega⟩
    have f2 := hexF_d (x := 2) ha hb hc ⟨by omega, by omega⟩
    have f3 := hexF_d (x := 3) ha hb hc ⟨by omega, by omega⟩
    go_enter Tryd.func21, Tryd.ntmps21
    go_wp2_with fail
    refine (twoDigitsFrom_ok _ _ _ ha hb).mono ?_
    rintro e w' ⟨rfl, rfl⟩
    go_wp2_with fail
    refine (digitFrom_ok _ _ hc).mono ?_
    rintro e w' ⟨rfl, rfl⟩
    go_wp2_with fail
    refine (hexRowOf_calls _ _ _ _ ha hb hc hT).mono ?_
    rintro e w1 ⟨rfl, b1⟩
    go_wp2_with fail
    refine (hexRow_list_calls _ _ _ _ _ _ _ ha hb hc f1 f2 f3).mono ?_
    rintro e w2 ⟨v, rfl, o2, b2⟩
    go_wp2_with fail
    go_ret2
    exact ⟨v, rfl, o2.weak b1.size, b1.trans (b2.mono b1.size)⟩
  · rw [show hOf a b c = ([], false) by simp [hOf, (digB_no _).2 hc]]
    go_enter Tryd.func21, Tryd.ntmps21
    go_wp2_with fail
    refine (twoDigitsFrom_ok _ _ _ ha hb).mono ?_
    rintro e w' ⟨rfl, rfl⟩
    go_wp2_with fail
    refine (digitFrom_no _ _ hc).mono ?_
    rintro e w' ⟨rfl, rfl⟩
    go_wp2_with fail
    go_ret2
    exact ⟨_, rfl, Own.nil_ _ _, Below.refl _ _⟩
  · rw [show hOf a b c = ([], false) by simp [hOf, (digB_no _).2 hb]]
    go_enter Tryd.func21, Tryd.ntmps21
    go_wp2_with fail
    refine (twoDigitsFrom_no _ _ _ (.inr hb)).mono ?_
    rintro e w' ⟨rfl, rfl⟩
    go_wp2_with fail
    go_ret2
    exact ⟨_, rfl, Own.nil_ _ _, Below.refl _ _⟩
  · rw [show hOf a b c = ([], false) by simp [hOf, (digB_no _).2 ha]]
    go_enter Tryd.func21, Tryd.ntmps21
    go_wp2_with fail
    refine (twoDigitsFrom_no _ _ _ (.inl ha)).mono ?_
    rintro e w' ⟨rfl, rfl⟩
    go_wp2_with fail
    go_ret2
    exact ⟨_, rfl, Own.nil_ _ _, Below.refl _ _⟩
set_option maxHeartbeats 1000000 in
theorem iHexIn_calls (A : Option Addr) (c : Nat) (xs : List Int) (w : World) (ha : Rds w w.heap.size .i64 A xs) (hx : xs.length ≤ maxLen) (hT : Tab w) :
    Calls Tryd.prog 25 #[.slice A xs.length c] w fun e w' => e = .returned (.bool (hIn xs)) ∧ Below w.heap.size w w' := by
  rcases hb : rowB xs with _ | _
  · have HW := Lib.hid (show hIn xs = false by simp [hIn, hb])
    go_enter Tryd.func25, Tryd.ntmps25
    go_wp2_with fail
    refine (hexRowFrom_no _ _ xs _ ha hx ((rowB_no xs).1 hb)).mono ?_
    rintro e w1 ⟨rfl, b1⟩
    clear hb
    unfold noRow
    go_wp2_with fail
    go_ret
    exact ⟨ret_b HW.out.symm, b1.alloc b1.size _⟩
  · obtain ⟨d0, d1, d2, d3, d4, d5, rfl, h0, h1, h2, h3, h4, h5⟩ := ((rowB_iff xs).1 hb).six
    have HW := Lib.hid (show hIn [d0, d1, d2, d3, d4, d5] = hexB [d0, d1, d2, d3, d4, d5] by simp [hIn, hb])
    clear hb hx
    show Calls _ _ #[.slice _ 6 _] _ _
    go_enter Tryd.func25, Tryd.ntmps25
    go_wp2_with fail
    refine (hexRowFrom_ok _ _ d0 d1 d2 d3 d4 d5 _ ha h0 h1 h2 h3 h4 h5).mono ?_
    rintro e w1 ⟨rfl, b1⟩
    have s1 := b1.size
    go_wp2_with fail
    refine (inHexacode_calls d0 d1 d2 d3 d4 d5 _ h0 h1 h2 h3 h4 h5 ((hT.below b1 hT.lt).alloc _)).mono ?_
    rintro e w2 ⟨rfl, b2⟩
    rw [← HW.out]
    go_wp2_with fail
    go_ret
    exact ⟨rfl, (b1.alloc s1 _).trans (b2.mono (by simp only [alloc_sz]; omega))⟩
set_option maxHeartbeats 1000000 in
theorem iHexTimes_calls (A : Option Addr) (c : Nat) (xs : List Int) (n : Int) (w : World) (ha : Rds w w.heap.size .i64 A xs) (hx : xs.length ≤ maxLen) (hT : Tab w) :
    Calls Tryd.prog 28 #[.slice A xs.length c, .int .i64 n] w (GotL w (hTimes xs n).1 (hTimes xs n).2) := by
  rcases hb : rowB xs with _ | _
  · rw [show hTimes xs n = ([], false) by simp [hTimes, hb]]
    go_enter Tryd.func28, Tryd.ntmps28
    go_wp2_with fail
    refine (hexRowFrom_no _ _ xs _ ha hx ((rowB_no xs).1 hb)).mono ?_
    rintro e w1 ⟨rfl, b1⟩
    clear hb
    unfold noRow
    go_wp2_with fail
    go_ret2
    exact ⟨_, rfl, Own.nil_ _ _, b1.alloc b1.size _⟩
  · obtain ⟨d0, d1, d2, d3, d4, d5, rfl, h0, h1, h2, h3, h4, h5⟩ := ((rowB_iff xs).1 hb).six
    rcases isD_or n with hn | hn
    · rw [show hTimes [d0, d1, d2, d3, d4, d5] n = ([mulD d0 n, mulD d1 n, mulD d2 n, mulD d3 n, mulD d4 n, mulD d5 n], true) by simp [hTimes, hb, (digB_iff _).2 hn, mulR]]
      clear hb hx
      show Calls _ _ #[.slice _ 6 _, _] _ _
      go_enter Tryd.func28, Tryd.ntmps28
      go_wp2_with fail
      refine (hexRowFrom_ok _ _ d0 d1 d2 d3 d4 d5 _ ha h0 h1 h2 h3 h4 h5).mono ?_
      rintro e w1 ⟨rfl, b1⟩
      have s1 := b1.size
      have hT1 := (hT.below b1 hT.lt).alloc (.cells #[.int .u8 d0, .int .u8 d1, .int .u8 d2, .int .u8 d3, .int .u8 d4, .int .u8 d5] 61)
      go_wp2_with fail
      refine (digitFrom_ok _ _ hn).mono ?_
      rintro e w' ⟨rfl, rfl⟩
      go_wp2_with fail
      refine (hexRow_times_calls d0 d1 d2 d3 d4 d5 n _ h0 h1 h2 h3 h4 h5 hn hT1).mono ?_
      rintro e w2 ⟨rfl, b2⟩
      have s2 := b2.size
      simp only [alloc_sz] at s2
      go_wp2_with fail
      refine (hexRow_list_calls _ _ _ _ _ _ _ (mulD_d h0 hn) (mulD_d h1 hn) (mulD_d h2 hn) (mulD_d h3 hn) (mulD_d h4 hn) (mulD_d h5 hn)).mono ?_
      rintro e w3 ⟨v, rfl, o3, b3⟩
      go_wp2_with fail
      go_ret2
      exact ⟨v, rfl, o3.weak (by omega), (b1.alloc s1 _).trans ((b2.mono (by simp only [alloc_sz]; omega)).trans (b3.mono (by omega)))⟩
    · rw [show hTimes [d0, d1, d2, d3, d4, d5] n = ([], false) by simp [hTimes, (digB_no _).2 hn]]
      clear hb hx
      show Calls _ _ #[.slice _ 6 _, _] _ _
      go_enter Tryd.func28, Tryd.ntmps28
      go_wp2_with fail
      refine (hexRowFrom_ok _ _ d0 d1 d2 d3 d4 d5 _ ha h0 h1 h2 h3 h4 h5).mono ?_
      rintro e w1 ⟨rfl, b1⟩
      have s1 := b1.size
      go_wp2_with fail
      refine (digitFrom_no _ _ hn).mono ?_
      rintro e w' ⟨rfl, rfl⟩
      go_wp2_with fail
      go_ret2
      exact ⟨_, rfl, Own.nil_ _ _, b1.alloc s1 _⟩
set_option maxHeartbeats 1000000 in
theorem iHexInner_calls (A A2 : Option Addr) (c c2 : Nat) (xs ys : List Int) (w : World) (ha : Rds w w.heap.size .i64 A xs) (hx : xs.length ≤ maxLen) (ha2 : Rds w w.heap.size .i64 A2 ys) (hy : ys.length ≤ maxLen) (hT : Tab w) :
    Calls Tryd.prog 30 #[.slice A xs.length c, .slice A2 ys.length c2] w fun e w' => e = .returned (.int .i64 (hInner xs ys)) ∧ Below w.heap.size w w' := by
  rcases hb : rowB xs with _ | _
  · rw [show hInner xs ys = -1 by simp [hInner, hb]]
    go_enter Tryd.func30, Tryd.ntmps30
    go_wp2_with fail
    refine (twoHexRowsFrom_no1 _ _ _ _ xs ys _ ha hx ((rowB_no xs).1 hb)).mono ?_
    rintro e w1 ⟨rfl, b1⟩
    clear hb
    unfold noRow
    go_wp2_with fail
    go_ret
    exact ⟨rfl, (b1.alloc b1.size _).alloc (by have := b1.size; simp only [alloc_sz]; omega) _⟩
  · obtain ⟨d0, d1, d2, d3, d4, d5, rfl, h0, h1, h2, h3, h4, h5⟩ := ((rowB_iff xs).1 hb).six
    rcases hc : rowB ys with _ | _
    · rw [show hInner [d0, d1, d2, d3, d4, d5] ys = -1 by simp [hInner, hc]]
      clear hb
      show Calls _ _ #[.slice _ 6 _, .slice _ _ _] _ _
      go_enter Tryd.func30, Tryd.ntmps30
      go_wp2_with fail
      refine (twoHexRowsFrom_no2 _ _ _ _ ys d0 d1 d2 d3 d4 d5 _ ha ha2 hy ((rowB_no ys).1 hc) h0 h1 h2 h3 h4 h5).mono ?_
      rintro e w1 ⟨rfl, b1⟩
      clear hc
      unfold noRow
      go_wp2_with fail
      go_ret
      exact ⟨rfl, (b1.alloc b1.size _).alloc (by have := b1.size; simp only [alloc_sz]; omega) _⟩
    · obtain ⟨e0, e1, e2, e3, e4, e5, rfl, g0, g1, g2, g3, g4, g5⟩ := ((rowB_iff ys).1 hc).six
      rw [show hInner [d0, d1, d2, d3, d4, d5] [e0, e1, e2, e3, e4, e5] = innR [d0, d1, d2, d3, d4, d5] [e0, e1, e2, e3, e4, e5] by simp [hInner, hb, hc]]
      clear hb hc hx hy
      obtain ⟨x0, x1⟩ := innR_d (isRow6_mk h0 h1 h2 h3 h4 h5) (isRow6_mk g0 g1 g2 g3 g4 g5)
      have HI := Lib.hid (fun w hT => hexRow_inner_calls d0 d1 d2 d3 d4 d5 e0 e1 e2 e3 e4 e5 w h0 h1 h2 h3 h4 h5 g0 g1 g2 g3 g4 g5 hT)
      generalize innR [d0, d1, d2, d3, d4, d5] [e0, e1, e2, e3, e4, e5] = m at *
      show Calls _ _ #[.slice _ 6 _, .slice _ 6 _] _ _
      go_enter Tryd.func30, Tryd.ntmps30
      go_wp2_with fail
      refine (twoHexRowsFrom_ok _ _ _ _ d0 d1 d2 d3 d4 d5 e0 e1 e2 e3 e4 e5 _ ha ha2 h0 h1 h2 h3 h4 h5 g0 g1 g2 g3 g4 g5).mono ?_
      rintro e w1 ⟨rfl, b1⟩
      have s1 := b1.size
      have hT1 := ((hT.below b1 hT.lt).alloc (.cells #[.int .u8 d0, .int .u8 d1, .int .u8 d2, .int .u8 d3, .int .u8 d4, .int .u8 d5] 61)).alloc (.cells #[.int .u8 e0, .int .u8 e1, .int .u8 e2, .int .u8 e3, .int .u8 e4, .int .u8 e5] 61)
      go_wp2_with fail
      refine (HI.out _ hT1).mono ?_
      rintro e w2 ⟨rfl, b2⟩
      have s2 := b2.size
      simp only [alloc_sz] at s2
      go_wp2_with fail
      go_ret
      exact ⟨rfl, ((b1.alloc s1 _).alloc (by simp only [alloc_sz]; omega) _).trans (b2.mono (by simp only [alloc_sz]; omega))⟩
set_option maxHeartbeats 1000000 in
theorem iHexNear_calls (A : Option Addr) (c : Nat) (xs : List Int) (w : World) (ha : Rds w w.heap.size .i64 A xs) (hx : xs.length ≤ maxLen) (hT : Tab w) :
    Calls Tryd.prog 38 #[.slice A xs.length c] w (GotLN w (hNear xs).1 (hNear xs).2.1 (hNear xs).2.2) := by
  rcases hb : rowB xs with _ | _
  · rw [show hNear xs = ([], 0, false) by simp [hNear, hb]]
    go_enter Tryd.func38, Tryd.ntmps38
    go_wp2_with fail
    refine (hexRowFrom_no _ _ xs _ ha hx ((rowB_no xs).1 hb)).mono ?_
    rintro e w1 ⟨rfl, b1⟩
    clear hb
    unfold noRow
    go_wp2_with fail
    go_ret3
    exact ⟨_, rfl, Own.nil_ _ _, b1.alloc b1.size _⟩
  · obtain ⟨d0, d1, d2, d3, d4, d5, rfl, h0, h1, h2, h3, h4, h5⟩ := ((rowB_iff xs).1 hb).six
    have hrow := (rowB_iff _).1 hb
    have hn1 := (near_is hrow).1
    rw [show hNear [d0, d1, d2, d3, d4, d5] = ((nearTo [d0, d1, d2, d3, d4, d5] 64).1, (nearTo [d0, d1, d2, d3, d4, d5] 64).2, true) by simp [hNear, hb]]
    have H0 := Lib.hid (fun w hT => hexRow_near_calls d0 d1 d2 d3 d4 d5 w h0 h1 h2 h3 h4 h5 hT)
    generalize nearTo [d0, d1, d2, d3, d4, d5] 64 = p at *
    obtain ⟨p1, m⟩ := p
    dsimp only at *
    obtain ⟨r0, r1, r2, r3, r4, r5, rfl, f0, f1, f2, f3, f4, f5⟩ := hn1.row.six
    have HI : Hid (∀ w, Tab w → Calls Tryd.prog 67 #[.agg #[.int .u8 d0, .int .u8 d1, .int .u8 d2, .int .u8 d3, .int .u8 d4, .int .u8 d5]] w fun r w' => r = .returned (.tuple #[.agg #[.int .u8 r0, .int .u8 r1, .int .u8 r2, .int .u8 r3, .int .u8 r4, .int .u8 r5], .int .i64 m]) ∧ Below w.heap.size w w') := H0
    clear hb hx hn1 hrow H0
    show Calls _ _ #[.slice _ 6 _] _ _
    go_enter Tryd.func38, Tryd.ntmps38
    go_wp2_with fail
    refine (hexRowFrom_ok _ _ d0 d1 d2 d3 d4 d5 _ ha h0 h1 h2 h3 h4 h5).mono ?_
    rintro e w1 ⟨rfl, b1⟩
    have s1 := b1.size
    have hT1 := (hT.below b1 hT.lt).alloc (.cells #[.int .u8 d0, .int .u8 d1, .int .u8 d2, .int .u8 d3, .int .u8 d4, .int .u8 d5] 61)
    go_wp2_with fail
    refine (HI.out _ hT1).mono ?_
    rintro e w2 ⟨rfl, b2⟩
    have s2 := b2.size
    simp only [alloc_sz] at s2
    go_wp2_with fail
    refine (hexRow_list_calls _ _ _ _ _ _ _ f0 f1 f2 f3 f4 f5).mono ?_
    rintro e w3 ⟨v, rfl, o3, b3⟩
    go_wp2_with fail
    go_ret3
    exact ⟨v, rfl, o3.weak (by simp only [alloc_sz]; omega), (b1.alloc s1 _).trans ((b2.mono (by simp only [alloc_sz]; omega)).alloc (by omega) _) |>.trans (b3.mono (by simp only [alloc_sz]; omega))⟩
end Go.Proofs.YtojjbdpoecmaeaaDoor
