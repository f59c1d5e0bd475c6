/- The walks of promises 38 and 41. -/
import Derived.Test.YtagniijhbiglaaaDoorC51
import Derived.Test.YtagniijhbiglaaaDoorC54
import Derived.Test.YtagniijhbiglaaaDoorQ3
namespace Go.Proofs.YtagniijhbiglaaaDoor
open Go.RowKit
set_option linter.unusedVariables false
attribute [local irreducible] octS cN octF syn

def sumB (a b : Int) : Bool := tetB a && tetB b && decide (wt (andI a b) = 2)
theorem sumA_no {a b : Int} (h : sumB a b = false) : sumA a b = ([], false) := by
  unfold sumB at h
  unfold sumA
  rw [h]; rfl
theorem sumA_yes {a b : Int} (h : sumB a b = true) : ∃ s L, sumA a b = (L, true) ∧ IsW a ∧ IsW b ∧ xorI a b = s ∧ sxA s = (L, true) ∧ L.length = 6 := by
  have h0 := h
  unfold sumB at h
  simp only [Bool.and_eq_true, decide_eq_true_eq, tetB_iff] at h
  obtain ⟨⟨ha, hb⟩, h2⟩ := h
  have hs := sx_sum ha hb h2
  refine ⟨xorI a b, sxOf (xorI a b), ?_, ⟨ha.1, ha.2.1⟩, ⟨hb.1, hb.2.1⟩, rfl, ?_, sxOf_len hs⟩
  · unfold sumB at h0
    unfold sumA
    rw [h0]; rfl
  · unfold sxA
    rw [(tetB_iff _).2 hs]; rfl
theorem sx_six {xs : List Int} (h : sxB xs = true) : xs.length = 6 := by
  obtain ⟨u, hu, rfl⟩ := (sxB_iff xs).1 h
  exact sxOf_len hu
theorem sx_each {xs : List Int} (h : sxB xs = true) (k : Nat) (hk : k < 6) : sxA (xs.getD k 0) = (xs, true) := by
  obtain ⟨u, hu, rfl⟩ := (sxB_iff xs).1 h
  obtain ⟨h1, h2⟩ := sxOf_same hu (sx_at hu k hk)
  unfold sxA
  rw [(tetB_iff _).2 h1, h2]; rfl
set_option maxRecDepth 100000 in
set_option maxHeartbeats 1000000 in
theorem walk_FnSextetSum (a0 : Option Addr) (len0 cap0 : Nat) (z0 : List Int) (w : World) (w0 : IsRow .u8 w a0 len0 cap0 z0) (hT : Tab2 w) :
    Calls Tryd.prog 7 #[.slice a0 len0 cap0] w fun e w' => e = .returned (.bool true) ∧ Below w.heap.size w w' := by
  obtain ⟨bs, rfl, hr, hc, hm, hv⟩ := w0.bytes
  have hm' := hm
  unfold maxLen at hm'
  by_cases hbig : 1048576 < bs.length
  · go_enter Tryd.func7, Tryd.ntmps7
    go_wp2_with fail
    go_ret
    exact ⟨rfl, Below.refl _ _⟩
  have hbig' : bs.length ≤ 1048576 := by omega
  clear hbig
  go_enter Tryd.func7, Tryd.ntmps7
  go_wp2_with fail
  refine (DrawSextetSum_calls _ _ bs _ hr hc hm hv).mono ?_
  rintro e w1 ⟨a, b, rfl, b1⟩
  have B0 := Lib.hid (b1)
  rcases hb : sumB a b with _ | _
  · have H := Lib.hid (sumA_no hb)
    clear hb
    go_wp2_with fail
    refine (iSextetSum_calls a b _ (hT.below (B0.out) hT.lt)).mono ?_
    rintro e w1_ ⟨v1_, he, o1_, b1_⟩
    rw [H.out] at he o1_
    dsimp only at he o1_
    subst he
    obtain ⟨Ax, cx, rfl⟩ := o1_.slice
    have B1 := Lib.hid ((B0.out).trans (b1_.mono (B0.out).size))
    have Ox1 := Lib.hid (o1_.weak (B0.out).size)
    go_wp2_with fail
    refine (sSextetSum_calls a b _).mono ?_
    rintro e w2_ ⟨v2_, he, o2_, b2_⟩
    rw [H.out] at he o2_
    dsimp only at he o2_
    subst he
    obtain ⟨Ay, cy, rfl⟩ := o2_.slice
    have B2 := Lib.hid ((B1.out).trans (b2_.mono (B1.out).size))
    have Ox2 := Lib.hid ((Ox1.out).below b2_)
    have Oy2 := Lib.hid (o2_.weak (B1.out).size)
    go_wp2_with fail
    refine (sameInts_calls _ _ _ _ [] [] _ (Ox2.out).rds (Oy2.out).rds (Ox2.out).len_le (Oy2.out).len_le).mono ?_
    rintro e w' ⟨he, k3_, rfl⟩
    rw [eqL_refl] at he
    subst he
    have B3 := Lib.hid (below_drewN (B2.out) k3_)
    have Ox3 := Lib.hid ((Ox2.out).drewN k3_)
    have Oy3 := Lib.hid ((Oy2.out).drewN k3_)
    go_wp2_with fail
    refine (sameInts_calls _ _ _ _ [] [] _ (Ox3.out).rds (Oy3.out).rds (Ox3.out).len_le (Oy3.out).len_le).mono ?_
    rintro e w' ⟨he, k4_, rfl⟩
    rw [eqL_refl] at he
    subst he
    have B4 := Lib.hid (below_drewN (B3.out) k4_)
    have Ox4 := Lib.hid ((Ox3.out).drewN k4_)
    have Oy4 := Lib.hid ((Oy3.out).drewN k4_)
    go_wp2_with fail
    go_ret
    first | exact ⟨rfl, B4.out⟩ | exact ⟨rfl, by have hB := B4.out; simp only [World.drewN_drewN] at hB; exact hB⟩
  · obtain ⟨s, zs, hO, wa, wb, hs, hS, hz6⟩ := sumA_yes hb
    have H := Lib.hid hO
    have HS := Lib.hid hS
    have HX := Lib.hid hs
    have HZ6 := Lib.hid hz6
    clear hb hO hS hs hz6
    go_wp2_with fail
    refine (iSextetSum_calls a b _ (hT.below (B0.out) hT.lt)).mono ?_
    rintro e w1_ ⟨v1_, he, o1_, b1_⟩
    rw [H.out] at he o1_
    dsimp only at he o1_
    subst he
    obtain ⟨Ax, cx, rfl⟩ := o1_.slice
    have B1 := Lib.hid ((B0.out).trans (b1_.mono (B0.out).size))
    have Ox1 := Lib.hid (o1_.weak (B0.out).size)
    go_wp2_with fail
    refine (sSextetSum_calls a b _).mono ?_
    rintro e w2_ ⟨v2_, he, o2_, b2_⟩
    rw [H.out] at he o2_
    dsimp only at he o2_
    subst he
    obtain ⟨Ay, cy, rfl⟩ := o2_.slice
    have B2 := Lib.hid ((B1.out).trans (b2_.mono (B1.out).size))
    have Ox2 := Lib.hid ((Ox1.out).below b2_)
    have Oy2 := Lib.hid (o2_.weak (B1.out).size)
    go_wp2_with fail
    refine (sameInts_calls _ _ _ _ zs zs _ (Ox2.out).rds (Oy2.out).rds (Ox2.out).len_le (Oy2.out).len_le).mono ?_
    rintro e w' ⟨he, k3_, rfl⟩
    rw [eqL_refl] at he
    subst he
    have B3 := Lib.hid (below_drewN (B2.out) k3_)
    have Ox3 := Lib.hid ((Ox2.out).drewN k3_)
    have Oy3 := Lib.hid ((Oy2.out).drewN k3_)
    go_wp2_with fail
    refine (iWordAdd_ok a b _ wa wb).mono ?_
    rintro e w' ⟨he, rfl⟩
    rw [HX.out] at he
    subst he
    go_wp2_with fail
    refine (iSextetOf_calls s _ (hT.below (B3.out) hT.lt)).mono ?_
    rintro e w4_ ⟨v4_, he, o4_, b4_⟩
    rw [HS.out] at he o4_
    dsimp only at he o4_
    subst he
    obtain ⟨Az, cz, rfl⟩ := o4_.slice
    have B4 := Lib.hid ((B3.out).trans (b4_.mono (B3.out).size))
    have Ox4 := Lib.hid ((Ox3.out).below b4_)
    have Oy4 := Lib.hid ((Oy3.out).below b4_)
    have Oz4 := Lib.hid (o4_.weak (B3.out).size)
    go_wp2_with fail
    refine (sameInts_calls _ _ _ _ zs zs _ (Oz4.out).rds (Ox4.out).rds (Oz4.out).len_le (Ox4.out).len_le).mono ?_
    rintro e w' ⟨he, k5_, rfl⟩
    rw [eqL_refl] at he
    subst he
    have B5 := Lib.hid (below_drewN (B4.out) k5_)
    have Ox5 := Lib.hid ((Ox4.out).drewN k5_)
    have Oy5 := Lib.hid ((Oy4.out).drewN k5_)
    have Oz5 := Lib.hid ((Oz4.out).drewN k5_)
    go_wp2_with fail
    go_ret
    first | exact ⟨rfl, B5.out⟩ | exact ⟨rfl, by have hB := B5.out; simp only [World.drewN_drewN] at hB; exact hB⟩
set_option maxRecDepth 100000 in
set_option maxHeartbeats 1000000 in
theorem walk_FnSextetValid (a0 : Option Addr) (len0 cap0 : Nat) (z0 : List Int) (w : World) (w0 : IsRow .u8 w a0 len0 cap0 z0) (hT : Tab2 w) :
    Calls Tryd.prog 4 #[.slice a0 len0 cap0] w fun e w' => e = .returned (.bool true) ∧ Below w.heap.size w w' := by
  obtain ⟨bs, rfl, hr, hc, hm, hv⟩ := w0.bytes
  have hm' := hm
  unfold maxLen at hm'
  by_cases hbig : 1048576 < bs.length
  · go_enter Tryd.func4, Tryd.ntmps4
    go_wp2_with fail
    go_ret
    exact ⟨rfl, Below.refl _ _⟩
  have hbig' : bs.length ≤ 1048576 := by omega
  clear hbig
  go_enter Tryd.func4, Tryd.ntmps4
  go_wp2_with fail
  refine (DrawSextetValid_calls _ _ bs _ hr hc hm hv).mono ?_
  rintro e w1 ⟨v, xs, rfl, o1, hl, b1⟩
  obtain ⟨Aa, ca, rfl⟩ := o1.slice
  have B0 := Lib.hid (b1)
  have Oa0 := Lib.hid (o1)
  rcases hb : sxB xs with _ | _
  · have H := Lib.hid hb
    clear hb hl
    go_wp2_with fail
    refine (iSextetValid_calls Aa ca xs _ (Oa0.out).rds (Oa0.out).len_le (hT.below (B0.out) hT.lt)).mono ?_
    rintro e w1_ ⟨he, b1_⟩
    rw [H.out] at he
    subst he
    have B1 := Lib.hid ((B0.out).trans (b1_.mono (B0.out).size))
    have Oa1 := Lib.hid ((Oa0.out).below b1_)
    go_wp2_with fail
    refine (sSextetValid_calls Aa ca xs _ (Oa1.out).rds (Oa1.out).len_le).mono ?_
    rintro e w2_ ⟨he, b2_⟩
    rw [H.out] at he
    subst he
    have B2 := Lib.hid ((B1.out).trans (b2_.mono (B1.out).size))
    have Oa2 := Lib.hid ((Oa1.out).below b2_)
    go_wp2_with fail
    go_ret
    first | exact ⟨rfl, B2.out⟩ | exact ⟨rfl, by have hB := B2.out; simp only [World.drewN_drewN] at hB; exact hB⟩
  · have h6 := sx_six hb
    have HE := Lib.hid (fun k hk => sx_each hb k hk)
    have H := Lib.hid hb
    have hl6 : ((xs.length : Nat) : Int) = 6 := by omega
    have H6 := Lib.hid h6
    clear hb hl h6
    go_wp2_with fail
    refine (iSextetValid_calls Aa ca xs _ (Oa0.out).rds (Oa0.out).len_le (hT.below (B0.out) hT.lt)).mono ?_
    rintro e w1_ ⟨he, b1_⟩
    rw [H.out] at he
    subst he
    have B1 := Lib.hid ((B0.out).trans (b1_.mono (B0.out).size))
    have Oa1 := Lib.hid ((Oa0.out).below b1_)
    go_wp2_with fail
    refine (sSextetValid_calls Aa ca xs _ (Oa1.out).rds (Oa1.out).len_le).mono ?_
    rintro e w2_ ⟨he, b2_⟩
    rw [H.out] at he
    subst he
    have B2 := Lib.hid ((B1.out).trans (b2_.mono (B1.out).size))
    have Oa2 := Lib.hid ((Oa1.out).below b2_)
    go_wp2_with fail
    go_loopw [6] (fun i wr => ∃ k : Nat, k ≤ 6 ∧ i = .int .i64 k ∧ Hid (Own wr w.heap.size (.slice Aa xs.length ca) xs) ∧ Hid (Below w.heap.size w wr)) (fun i _ => 6 - (intOf i).toNat)
    case atStart => exact ⟨0, by omega, rfl, Lib.hid (Oa2.out), Lib.hid (B2.out)⟩
    case round =>
      obtain ⟨k, hk, rfl, ho, hbl⟩ := hrel
      by_cases hlt : k < 6
      · obtain ⟨b0, o0, rfl, hb0, hc0⟩ := ho.out.rds.at_ (j := k) (by rw [H6.out]; exact hlt)
        have HS := Lib.hid (HE.out k hlt)
        have hq1 : (0 : Int) ≤ (k : Int) := by omega
        have hq2 : (k : Int) < 6 := by omega
        generalize xs.getD k 0 = x at *
        go_wp2_with fail
        refine (iSextetOf_calls x _ (hT.below hbl.out hT.lt)).mono ?_
        rintro e w5 ⟨v5, he, o5, b5⟩
        rw [HS.out] at he o5
        dsimp only at he o5
        subst he
        obtain ⟨A5, c5, rfl⟩ := o5.slice
        have HO5 := Lib.hid o5
        have HOA := Lib.hid (ho.out.below b5)
        have HB5 := Lib.hid (hbl.out.trans (b5.mono hbl.out.size))
        clear o5 b5
        go_wp2_with fail
        refine (sameInts_calls _ _ _ _ xs xs _ HO5.out.rds HOA.out.rds HO5.out.len_le HOA.out.len_le).mono ?_
        rintro e w' ⟨he, k5, rfl⟩
        rw [eqL_refl] at he
        subst he
        have HOA2 := Lib.hid (HOA.out.drewN k5)
        have HB6 := Lib.hid (below_drewN HB5.out k5)
        go_wp2_with fail
        go_roundw
        case rel => exact ⟨k + 1, by omega, by go_num, HOA2, HB6⟩
        case measure => simp [intOf]; omega
      · obtain rfl : k = 6 := by omega
        go_wp2_with fail
        go_ret
        exact ⟨rfl, hbl.out⟩
end Go.Proofs.YtagniijhbiglaaaDoor
