/- The walk of promise 59. -/
import Derived.Test.YtakefnfhjiodnaaDoorC119
import Derived.Test.YtakefnfhjiodnaaDoorC109
import Derived.Test.YtakefnfhjiodnaaDoorC108
import Derived.Test.YtakefnfhjiodnaaDoorQ8
import Derived.Test.YtakefnfhjiodnaaDoorM33
import Derived.Test.YtakefnfhjiodnaaDoorQ3
import Derived.Test.YtakefnfhjiodnaaDoorW8
namespace Go.Proofs.YtakefnfhjiodnaaDoor
open Go.RowKit
set_option linter.unusedVariables false
attribute [local irreducible] cN syn octS octF

theorem mv_facts {xs : List Int} {n : Int} (h : permB xs = true) (hk : keepsB xs = true) (hn : IsW n) : ∃ m, plWord xs n = (m, true) ∧ IsW m ∧ wt m = wt n ∧ cIn m = cIn n := by
  obtain ⟨hP, _⟩ := permB_perm h
  obtain ⟨n0, n1⟩ := hn
  obtain ⟨R, rfl⟩ := Int.eq_ofNat_of_zero_le n0
  have hR : R < 16777216 := by omega
  have hM := movN_lt hP R
  have hb := mov_turn hP R hR
  have hK := (keepsB_iff h).1 hk
  have hwd : wdB (R : Int) = true := by simp [wdB]; omega
  refine ⟨((movN (natP xs) R : Nat) : Int), by simp [plWord, h, hwd], ⟨by omega, by omega⟩, by rw [wt_pop, wt_pop, pop_mov hP], ?_⟩
  have e : ∀ v : Nat, v < 16777216 → cIn (v : Int) = (syn v == 0) := fun v hv => by
    have hw : wordB (v : Int) = true := (wordB_iff _).2 ⟨by omega, by omega⟩
    rw [← codeInB_syn v hv]
    simp [cIn, hw]
  rw [e _ hM, e R hR, Bool.eq_iff_iff, beq_iff_eq, beq_iff_eq]
  constructor
  · intro hs
    have := (KeepsN.turn hP hK).word _ hM hs
    rwa [hb] at this
  · intro hs
    exact hK.word R hR hs
theorem oct_in {x : Int} (h : IsOct x) : oIn x = true := by
  have hr := h.rng
  obtain ⟨m, hm, e, h8⟩ := h
  unfold oIn cIn
  have hw : wordB x = true := (wordB_iff _).2 ⟨hr.1, hr.2⟩
  have hc : codeInB x = true := by
    obtain ⟨R, rfl⟩ := Int.eq_ofNat_of_zero_le hr.1
    rw [codeInB_syn R (by omega)]
    rw [codeOf_cN m hm] at e
    have : R = cN m := by omega
    rw [this]
    have := syn_cN m
    simp [this]
  rw [hw, hc, h8]; rfl
theorem lit_facts : ∃ a, oThrough [0, 5, 10, 15, 20] = (a, true) ∧ IsW a ∧ oIn a = true := by
  have ht : wof [0, 5, 10, 15, 20] = some 1082401 := by decide +kernel
  obtain ⟨wt1, hw⟩ := wof_is ht
  have h1 := oWith_five wt1 (by rw [hw]; rfl)
  refine ⟨(oWith 1082401).getD 0 0, by simp [oThrough, ht], ?_⟩
  have hm : (oWith 1082401).getD 0 0 ∈ oWith 1082401 := by rw [← getD_at _ 0 (by omega)]; exact List.getElem_mem _
  have ho := (oWith_mem.1 hm).1
  exact ⟨ho.rng, oct_in ho⟩
theorem in255 : oIn 255 = true := by decide +kernel
theorem code100 : cOf 100 = (codeOf 100, true) ∧ IsW (codeOf 100) ∧ cIn (codeOf 100) = true := by
  refine ⟨by decide +kernel, codeOf_range 100, by decide +kernel⟩
theorem keeps_all {xs : List Int} (hk : keepsB xs = true) : ∃ a X Y C Z, oThrough [0, 5, 10, 15, 20] = (a, true) ∧ plWord xs a = (X, true) ∧ oIn X = true ∧ plWord xs 255 = (Y, true) ∧ oIn Y = true ∧ cOf 100 = (C, true) ∧ plWord xs C = (Z, true) ∧ cIn Z = true := by
  have h : permB xs = true := by
    unfold keepsB at hk
    rw [Bool.and_eq_true] at hk
    exact hk.1
  obtain ⟨a, a1, a2, a3⟩ := lit_facts
  obtain ⟨X, x1, _, x2, x3⟩ := mv_facts h hk a2
  obtain ⟨Y, y1, _, y2, y3⟩ := mv_facts (n := 255) h hk ⟨by omega, by omega⟩
  obtain ⟨c1, c2, c3⟩ := code100
  obtain ⟨Z, z1, _, z2, z3⟩ := mv_facts h hk c2
  refine ⟨a, X, Y, _, Z, a1, x1, ?_, y1, ?_, c1, z1, by rw [z3]; exact c3⟩
  · unfold oIn at a3 ⊢
    rw [x2, x3]; exact a3
  · have := in255
    unfold oIn at this ⊢
    rw [y2, y3]; exact this
set_option maxHeartbeats 4000000 in
theorem walk_FnKeeps (a0 : Option Addr) (len0 cap0 : Nat) (z0 : List Int) (w : World) (w0 : IsRow .u8 w a0 len0 cap0 z0) (hT : Tab3 w) :
    Calls Tryd.prog 9 #[.slice a0 len0 cap0] w fun e w' => e = .returned (.bool true) ∧ Below w.heap.size w w' := by
  obtain ⟨bs, rfl, hr, hc, hm, hv⟩ := w0.bytes
  have hm' := hm
  unfold maxLen at hm'
  by_cases hbig : 1048576 < bs.length
  · go_enter Tryd.func9, Tryd.ntmps9
    go_wp2_with fail
    go_ret
    exact ⟨rfl, Below.refl _ _⟩
  have hbig' : bs.length ≤ 1048576 := by omega
  clear hbig
  go_enter Tryd.func9, Tryd.ntmps9
  go_wp2_with fail
  refine (DrawPermKeeps_calls _ _ bs _ hr hc hm hv).mono ?_
  rintro e w1 ⟨v, xs, rfl, o1, hl, b1⟩
  obtain ⟨Aa, ca, rfl⟩ := o1.slice
  have B0 := Lib.hid (b1)
  have Oa0 := Lib.hid (o1)
  rcases hb : keepsB xs with _ | _
  · have H := Lib.hid hb
    clear hb
    go_wp2_with fail
    refine (iPermKeeps_calls Aa ca xs _ (Oa0.out).rds (Oa0.out).len_le (hT.below (B0.out) hT.lt)).mono ?_
    rintro e w1_ ⟨he, b1_⟩
    rw [H.out] at he
    subst he
    have B1 := Lib.hid ((B0.out).trans (b1_.mono (B0.out).size))
    have Oa1 := Lib.hid ((Oa0.out).below b1_)
    go_wp2_with fail
    refine (sPermKeeps_calls Aa ca xs _ (Oa1.out).rds (Oa1.out).len_le).mono ?_
    rintro e w2_ ⟨he, b2_⟩
    rw [H.out] at he
    subst he
    have B2 := Lib.hid ((B1.out).trans (b2_.mono (B1.out).size))
    have Oa2 := Lib.hid ((Oa1.out).below b2_)
    go_wp2_with fail
    go_ret
    first | exact ⟨rfl, B2.out⟩ | exact ⟨rfl, by have hB := B2.out; simp only [World.drewN_drewN] at hB; exact hB⟩
  · obtain ⟨a, X, Y, C, Z, f1, f2, f3, f4, f5, f6, f7, f8⟩ := keeps_all hb
    have F1 := Lib.hid f1
    have F2 := Lib.hid f2
    have F3 := Lib.hid f3
    have F4 := Lib.hid f4
    have F5 := Lib.hid f5
    have F6 := Lib.hid f6
    have F7 := Lib.hid f7
    have F8 := Lib.hid f8
    have F9 := Lib.hid in255
    have H := Lib.hid hb
    clear hb f1 f2 f3 f4 f5 f6 f7 f8
    go_wp2_with fail
    refine (iPermKeeps_calls Aa ca xs _ (Oa0.out).rds (Oa0.out).len_le (hT.below (B0.out) hT.lt)).mono ?_
    rintro e w1_ ⟨he, b1_⟩
    rw [H.out] at he
    subst he
    have B1 := Lib.hid ((B0.out).trans (b1_.mono (B0.out).size))
    have Oa1 := Lib.hid ((Oa0.out).below b1_)
    go_wp2_with fail
    refine (sPermKeeps_calls Aa ca xs _ (Oa1.out).rds (Oa1.out).len_le).mono ?_
    rintro e w2_ ⟨he, b2_⟩
    rw [H.out] at he
    subst he
    have B2 := Lib.hid ((B1.out).trans (b2_.mono (B1.out).size))
    have Oa2 := Lib.hid ((Oa1.out).below b2_)
    have HB0 := Lib.hid (B2.out)
    have HA0 := Lib.hid (Oa2.out)
    go_wp2_with fail
    have hh5 := heap_alloc_new w2_ (.cells (VL [0, 5, 10, 15, 20]) 3)
    have HBL := Lib.hid ((HB0.out).alloc HB0.out.size (.cells (VL [0, 5, 10, 15, 20]) 3))
    have HAL := Lib.hid (HA0.out.below ((Below.refl w2_.heap.size w2_).alloc (Nat.le_refl _) (.cells (VL [0, 5, 10, 15, 20]) 3)))
    have hr5 : Rds (w2_.alloc (.cells (VL [0, 5, 10, 15, 20]) 3)) (w2_.alloc (.cells (VL [0, 5, 10, 15, 20]) 3)).heap.size .i64 (some ⟨w2_.heap.size, 0, none⟩) [0, 5, 10, 15, 20] :=
      .inr ⟨_, _, rfl, by simp, fun j hj => by have := VL_at (j := j) [0, 5, 10, 15, 20] hj hh5; simpa using this⟩
    refine (iOctadThrough_calls (some ⟨w2_.heap.size, 0, none⟩) 5 [0, 5, 10, 15, 20] _ hr5 (by decide) (hT.below HBL.out hT.lt).1 (hT.below HBL.out hT.lt).2).mono ?_
    rintro e w3 ⟨he, b3⟩
    rw [F1.out] at he
    dsimp only at he
    subst he
    have HB3 := Lib.hid (HBL.out.trans (b3.mono HBL.out.size))
    have HA3 := Lib.hid (HAL.out.below b3)
    clear hr5 hh5 b3
    go_wp2_with fail
    refine (iPermWord_calls Aa ca xs a _ (HA3.out).rds (HA3.out).len_le (hT.below (HB3.out) hT.lt).1).mono ?_
    rintro e w3_ ⟨he, b3_⟩
    rw [F2.out] at he
    dsimp only at he
    subst he
    have B3 := Lib.hid ((HB3.out).trans (b3_.mono (HB3.out).size))
    have Oa3 := Lib.hid ((HA3.out).below b3_)
    go_wp2_with fail
    refine (iPermWord_calls Aa ca xs 255 _ (Oa3.out).rds (Oa3.out).len_le (hT.below (B3.out) hT.lt).1).mono ?_
    rintro e w4_ ⟨he, b4_⟩
    rw [F4.out] at he
    dsimp only at he
    subst he
    have B4 := Lib.hid ((B3.out).trans (b4_.mono (B3.out).size))
    have Oa4 := Lib.hid ((Oa3.out).below b4_)
    go_wp2_with fail
    refine (iCodeOf_calls 100 _ (hT.below (B4.out) hT.lt).2).mono ?_
    rintro e w5_ ⟨he, b5_⟩
    rw [F6.out] at he
    dsimp only at he
    subst he
    have B5 := Lib.hid ((B4.out).trans (b5_.mono (B4.out).size))
    have Oa5 := Lib.hid ((Oa4.out).below b5_)
    go_wp2_with fail
    refine (iPermWord_calls Aa ca xs C _ (Oa5.out).rds (Oa5.out).len_le (hT.below (B5.out) hT.lt).1).mono ?_
    rintro e w6_ ⟨he, b6_⟩
    rw [F7.out] at he
    dsimp only at he
    subst he
    have B6 := Lib.hid ((B5.out).trans (b6_.mono (B5.out).size))
    have Oa6 := Lib.hid ((Oa5.out).below b6_)
    go_wp2_with fail
    refine (iOctadIn_calls X _ (hT.below (B6.out) hT.lt)).mono ?_
    rintro e w7_ ⟨he, b7_⟩
    rw [F3.out] at he
    subst he
    have B7 := Lib.hid ((B6.out).trans (b7_.mono (B6.out).size))
    have Oa7 := Lib.hid ((Oa6.out).below b7_)
    go_wp2_with fail
    refine (iOctadIn_calls 255 _ (hT.below (B7.out) hT.lt)).mono ?_
    rintro e w8_ ⟨he, b8_⟩
    rw [F9.out] at he
    subst he
    have B8 := Lib.hid ((B7.out).trans (b8_.mono (B7.out).size))
    have Oa8 := Lib.hid ((Oa7.out).below b8_)
    go_wp2_with fail
    refine (iOctadIn_calls Y _ (hT.below (B8.out) hT.lt)).mono ?_
    rintro e w9_ ⟨he, b9_⟩
    rw [F5.out] at he
    subst he
    have B9 := Lib.hid ((B8.out).trans (b9_.mono (B8.out).size))
    have Oa9 := Lib.hid ((Oa8.out).below b9_)
    go_wp2_with fail
    refine (iCodeIn_calls Z _ (hT.below (B9.out) hT.lt)).mono ?_
    rintro e w10_ ⟨he, b10_⟩
    rw [F8.out] at he
    subst he
    have B10 := Lib.hid ((B9.out).trans (b10_.mono (B9.out).size))
    have Oa10 := Lib.hid ((Oa9.out).below b10_)
    go_wp2_with fail
    go_ret
    first | exact ⟨rfl, B10.out⟩ | exact ⟨rfl, by have hB := B10.out; simp only [World.drewN_drewN] at hB; exact hB⟩
end Go.Proofs.YtakefnfhjiodnaaDoor
