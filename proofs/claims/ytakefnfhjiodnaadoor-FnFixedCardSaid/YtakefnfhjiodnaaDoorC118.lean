/- Drawing permutations, of the model. -/
import Derived.Test.YtakefnfhjiodnaaDoorC117
namespace Go.Proofs.YtakefnfhjiodnaaDoor
open Go.RowKit
set_option linter.unusedVariables false
attribute [local irreducible] cN syn

/-- What drawing a permutation leaves: a list of at most so many numbers, in memory of its own; the reader has gone on. -/
def PermDrawn (g q : Nat) (w : World) (e : Ending) (w' : World) : Prop := ∃ (v : Value) (xs : List Int) (q' : Nat), e = .returned v ∧ Own w' w.heap.size v xs ∧ xs.length ≤ 24 ∧ q' ≤ q + 60 ∧ Rd w' g q' ∧ w.grownBy w' (some g)
theorem rd_below {w w' : World} {g q : Nat} (h : Rd w g q) (hb : Below w.heap.size w w') : Rd w' g q := h.keep (hb.mono (by have := h.lt; omega))
set_option maxRecDepth 100000 in
set_option maxHeartbeats 4000000 in
theorem l92Perm_calls (g q : Nat) (w : World) (h : Rd w g q) (hq : q ≤ 700000) :
    Calls Tryd.prog 49 #[.pointer (some ⟨g, 0, none⟩)] w (PermDrawn g q w) := by
  have hg := h.lt
  have HE := Lib.hid (own_empty2 w w.heap.size (Nat.le_refl _))
  have HB0 := Lib.hid ((Below.refl w.heap.size w).alloc (Nat.le_refl _) (.cells #[] 3))
  have HR0 := Lib.hid (rd_below h HB0.out)
  have HG0 := Lib.hid (below_grown HB0.out (some g))
  clear h
  go_enter Tryd.func49, Tryd.ntmps49
  go_wp2_with fail
  refine (pick_calls g q 5 _ HR0.out (by omega) (by omega) (by omega)).mono ?_
  rintro e w1 ⟨z, rfl, z0, z1, r1, g1⟩
  have HE1 := Lib.hid (HE.out.grownG g1 hg)
  have HR1 := Lib.hid r1
  have HG1 := Lib.hid (grown_trans HG0.out g1)
  clear r1 g1 HE HB0 HR0 HG0
  by_cases h0 : z = 0
  · subst h0
    clear HE1
    go_wp2_with fail
    refine (pick_calls g _ 3 _ HR1.out (by omega) (by omega) (by omega)).mono ?_
    rintro e w2 ⟨m, rfl, m0, m1, rr, gg⟩
    have HR2 := Lib.hid rr
    have HG2 := Lib.hid (grown_trans HG1.out gg)
    clear rr gg
    go_wp2_with fail
    refine (sPermScale_calls (1 + m) _).mono ?_
    rintro e w3 ⟨v, he, o3, b3⟩
    have hs : plScale (1 + m) = (scP (1 + m), true) := by
      have : 1 ≤ 1 + m ∧ 1 + m ≤ 3 := ⟨by omega, by omega⟩
      simp [plScale, this]
    rw [hs] at he o3
    subst he
    have HO3 := Lib.hid (o3.weak HG2.out.size)
    have HR3 := Lib.hid (rd_below HR2.out b3)
    have HG3 := Lib.hid (grown_then_below HG2.out (b3.mono HG2.out.size))
    have hl3 := scP_len (1 + m)
    clear b3 o3 hs
    go_wp2_with fail
    go_ret
    exact ⟨_, _, _, rfl, HO3.out, by omega, by omega, HR3.out, HG3.out⟩
  have e0 : (z == 0) = false := by simpa using h0
  by_cases h1 : z = 1
  · subst h1
    clear HE1 h0
    go_wp2_with fail
    refine (pick_calls g _ 4 _ HR1.out (by omega) (by omega) (by omega)).mono ?_
    rintro e w2 ⟨m, rfl, m0, m1, rr, gg⟩
    have HR2 := Lib.hid rr
    have HG2 := Lib.hid (grown_trans HG1.out gg)
    clear rr gg
    go_wp2_with fail
    refine (pick_calls g _ 4 _ HR2.out (by omega) (by omega) (by omega)).mono ?_
    rintro e w3 ⟨m2, rfl, m20, m21, rr, gg⟩
    have HR3 := Lib.hid rr
    have HG3 := Lib.hid (grown_trans HG2.out gg)
    clear rr gg
    go_wp2_with fail
    refine (pick_calls g _ 4 _ HR3.out (by omega) (by omega) (by omega)).mono ?_
    rintro e w4 ⟨m3, rfl, m30, m31, rr, gg⟩
    have HR4 := Lib.hid rr
    have HG4 := Lib.hid (grown_trans HG3.out gg)
    clear rr gg
    go_wp2_with fail
    refine (l2Of_calls m m2 m3 _ m0 (by omega) m20 (by omega) m30 (by omega)).mono ?_
    rintro e w5 ⟨v, rfl, o5, b5⟩
    obtain ⟨A5, c5, rfl⟩ := o5.slice
    have HR5 := Lib.hid (rd_below HR4.out b5)
    have HG5 := Lib.hid (grown_then_below HG4.out (b5.mono HG4.out.size))
    have HO5 := Lib.hid o5
    clear b5 o5
    go_wp2_with fail
    refine (sPermHex_calls A5 c5 _ _ HO5.out.rds HO5.out.len_le).mono ?_
    rintro e w6 ⟨v6, he, o6, b6⟩
    obtain ⟨xs6, hxs6⟩ : ∃ xs, (plHex (hexRow m m2 m3)).1 = xs := ⟨_, rfl⟩
    have hl6 : (plHex (hexRow m m2 m3)).1.length ≤ 24 := by
      unfold plHex
      split
      · rw [hexP_len]; exact Nat.le_refl _
      · simp
    rw [hxs6] at hl6 o6
    have HO6 := Lib.hid (o6.weak HG5.out.size)
    have HR6 := Lib.hid (rd_below HR5.out b6)
    have HG6 := Lib.hid (grown_then_below HG5.out (b6.mono HG5.out.size))
    generalize (plHex (hexRow m m2 m3)).2 = b at *
    subst he
    clear b6 o6 hxs6
    cases b
    · clear HO6
      go_wp2_with fail
      refine (l91Places_calls g _ 24 _ HR6.out (by omega) (by omega) (by omega)).mono ?_
      rintro e wN ⟨vN, xsN, qN, rfl, oN, hlN, _, hqN, rN, gN⟩
      go_wp2_with fail
      go_ret
      exact ⟨vN, xsN, qN, rfl, oN.weak (HG6.out).size, by omega, by omega, rN, grown_trans HG6.out gN⟩
    · go_wp2_with fail
      go_ret
      exact ⟨_, _, _, rfl, HO6.out, hl6, by omega, HR6.out, HG6.out⟩
  have e1 : (z == 1) = false := by simpa using h1
  by_cases h2 : z = 2
  · subst h2
    clear HE1 h0 h1
    go_wp2_with fail
    refine (pick_calls g _ 23 _ HR1.out (by omega) (by omega) (by omega)).mono ?_
    rintro e w2 ⟨m, rfl, m0, m1, rr, gg⟩
    have HR2 := Lib.hid rr
    have HG2 := Lib.hid (grown_trans HG1.out gg)
    clear rr gg
    go_wp2_with fail
    refine (pick_calls g _ 23 _ HR2.out (by omega) (by omega) (by omega)).mono ?_
    rintro e w3 ⟨m2, rfl, m20, m21, rr, gg⟩
    have HR3 := Lib.hid rr
    have HG3 := Lib.hid (grown_trans HG2.out gg)
    clear rr gg
    go_wp2_with fail
    refine (pick_calls g _ 23 _ HR3.out (by omega) (by omega) (by omega)).mono ?_
    rintro e w4 ⟨m3, rfl, m30, m31, rr, gg⟩
    have HR4 := Lib.hid rr
    have HG4 := Lib.hid (grown_trans HG3.out gg)
    clear rr gg
    go_wp2_with fail
    refine (pick_calls g _ 23 _ HR4.out (by omega) (by omega) (by omega)).mono ?_
    rintro e w5 ⟨m4, rfl, m40, m41, rr, gg⟩
    have HR5 := Lib.hid rr
    have HG5 := Lib.hid (grown_trans HG4.out gg)
    clear rr gg
    go_wp2_with fail
    refine (LinePerm_any m m2 m3 m4 _ m0 (by omega) m20 (by omega) m30 (by omega) m40 (by omega)).mono ?_
    rintro e w6 ⟨v6, xs6, b, rfl, o6, hl6, b6⟩
    have HO6 := Lib.hid (o6.weak HG5.out.size)
    have HR6 := Lib.hid (rd_below HR5.out b6)
    have HG6 := Lib.hid (grown_then_below HG5.out (b6.mono HG5.out.size))
    clear b6 o6
    cases b
    · clear HO6
      go_wp2_with fail
      refine (l91Places_calls g _ 24 _ HR6.out (by omega) (by omega) (by omega)).mono ?_
      rintro e wN ⟨vN, xsN, qN, rfl, oN, hlN, _, hqN, rN, gN⟩
      go_wp2_with fail
      go_ret
      exact ⟨vN, xsN, qN, rfl, oN.weak (HG6.out).size, by omega, by omega, rN, grown_trans HG6.out gN⟩
    · go_wp2_with fail
      go_ret
      exact ⟨_, _, _, rfl, HO6.out, hl6, by omega, HR6.out, HG6.out⟩
  · have e2 : (z == 2) = false := by simpa using h2
    go_wp2_with fail
    refine (l91Places_calls g _ 24 _ HR1.out (by omega) (by omega) (by omega)).mono ?_
    rintro e wN ⟨vN, xsN, qN, rfl, oN, hlN, _, hqN, rN, gN⟩
    go_wp2_with fail
    go_ret
    exact ⟨vN, xsN, qN, rfl, oN.weak (HG1.out).size, by omega, by omega, rN, grown_trans HG1.out gN⟩
end Go.Proofs.YtakefnfhjiodnaaDoor
