/- The walk of promise 39. -/
import Derived.Test.YtagniijhbiglaaaDoorC59
import Derived.Test.YtagniijhbiglaaaDoorC60
import Derived.Test.YtagniijhbiglaaaDoorQ3
namespace Go.Proofs.YtagniijhbiglaaaDoor
open Go.RowKit
set_option linter.unusedVariables false
attribute [local irreducible] octS cN octF syn

def twoB (xs ys : List Int) : Bool := sxB xs && sxB ys
theorem tabA_no {xs ys : List Int} (h : twoB xs ys = false) : tabA xs ys = ([], false) := by unfold twoB at h; unfold tabA; rw [h]; rfl
theorem tabA_yes {xs ys : List Int} (h : twoB xs ys = true) : tabA xs ys = (tab36 xs ys, true) := by unfold twoB at h; unfold tabA; rw [h]; rfl
theorem twoB_swap {xs ys : List Int} (h : twoB xs ys = true) : twoB ys xs = true := by unfold twoB at h ⊢; rw [Bool.and_comm]; exact h
theorem tab36_len (xs ys : List Int) : (tab36 xs ys).length = 36 := by simp [tab36]
theorem tab36_at (xs ys : List Int) (i k : Nat) (hi : i < 6) (hk : k < 6) : (tab36 xs ys).getD (6 * i + k) 0 = tabE xs ys i k := by
  rw [← getD_at _ _ (by rw [tab36_len]; omega)]
  unfold tab36
  rw [List.getElem_map, List.getElem_range, show (6 * i + k) / 6 = i by omega, show (6 * i + k) % 6 = k by omega]
theorem rowTo_succ (x : Int) (b : List Int) (k : Nat) : rowTo x b (k + 1) = rowTo x b k + wt (andI x (b.getD k 0)) := rfl
theorem rowTo_rng (x : Int) (b : List Int) (k : Nat) : 0 ≤ rowTo x b k ∧ rowTo x b k ≤ 24 * k := by
  induction k with
  | zero => exact ⟨Int.le_refl _, by simp [rowTo]⟩
  | succ k ih => rw [rowTo_succ]; have := wt_range (andI x (b.getD k 0)); omega
theorem tab_known {xs ys : List Int} (h : twoB xs ys = true) : ∀ i, i < 6 → rowTo (xs.getD i 0) ys 6 = 4 ∧ rowTo (ys.getD i 0) xs 6 = 4 := by
  unfold twoB at h
  rw [Bool.and_eq_true] at h
  obtain ⟨u, hu, rfl⟩ := (sxB_iff xs).1 h.1
  obtain ⟨v, hv, rfl⟩ := (sxB_iff ys).1 h.2
  exact fun i hi => ⟨row_four (sxOf_same hu (sx_at hu i hi)).1 hv, row_four (sxOf_same hv (sx_at hv i hi)).1 hu⟩
set_option maxRecDepth 100000 in
set_option maxHeartbeats 2000000 in
theorem walk_FnTable (a0 : Option Addr) (len0 cap0 : Nat) (z0 : List Int) (w : World) (w0 : IsRow .u8 w a0 len0 cap0 z0) (hT : Tab2 w) :
    Calls Tryd.prog 5 #[.slice a0 len0 cap0] w fun e w' => e = .returned (.bool true) ∧ Below w.heap.size w w' := by
  obtain ⟨bs, rfl, hr, hc, hm, hv⟩ := w0.bytes
  have hm' := hm
  unfold maxLen at hm'
  by_cases hbig : 1048576 < bs.length
  · go_enter Tryd.func5, Tryd.ntmps5
    go_wp2_with fail
    go_ret
    exact ⟨rfl, Below.refl _ _⟩
  have hbig' : bs.length ≤ 1048576 := by omega
  clear hbig
  go_enter Tryd.func5, Tryd.ntmps5
  go_wp2_with fail
  refine (DrawSextetTable_calls _ _ bs _ hr hc hm hv).mono ?_
  rintro e w1 ⟨v, v2, xs, ys, rfl, o1, o2, hx6, hy6, b1⟩
  obtain ⟨Aa, ca, rfl⟩ := o1.slice
  obtain ⟨Ab, cb, rfl⟩ := o2.slice
  have B0 := Lib.hid (b1)
  have Oa0 := Lib.hid (o1)
  have Ob0 := Lib.hid (o2)
  rcases hb : twoB xs ys with _ | _
  · have H := Lib.hid (tabA_no hb)
    clear hb hx6 hy6
    go_wp2_with fail
    refine (iSextetTable_calls _ _ _ _ xs ys _ (Oa0.out).rds (Oa0.out).len_le (Ob0.out).rds (Ob0.out).len_le (hT.below (B0.out) hT.lt)).mono ?_
    rintro e w1_ ⟨v1_, he, o1_, b1_⟩
    rw [H.out] at he o1_
    dsimp only at he o1_
    subst he
    obtain ⟨Ax, cx, rfl⟩ := o1_.slice
    have B1 := Lib.hid ((B0.out).trans (b1_.mono (B0.out).size))
    have Oa1 := Lib.hid ((Oa0.out).below b1_)
    have Ob1 := Lib.hid ((Ob0.out).below b1_)
    have Ox1 := Lib.hid (o1_.weak (B0.out).size)
    go_wp2_with fail
    refine (sSextetTable_calls _ _ _ _ xs ys _ (Oa1.out).rds (Oa1.out).len_le (Ob1.out).rds (Ob1.out).len_le).mono ?_
    rintro e w2_ ⟨v2_, he, o2_, b2_⟩
    rw [H.out] at he o2_
    dsimp only at he o2_
    subst he
    obtain ⟨Ay, cy, rfl⟩ := o2_.slice
    have B2 := Lib.hid ((B1.out).trans (b2_.mono (B1.out).size))
    have Oa2 := Lib.hid ((Oa1.out).below b2_)
    have Ob2 := Lib.hid ((Ob1.out).below b2_)
    have Ox2 := Lib.hid ((Ox1.out).below b2_)
    have Oy2 := Lib.hid (o2_.weak (B1.out).size)
    go_wp2_with fail
    refine (sameInts_calls _ _ _ _ [] [] _ (Ox2.out).rds (Oy2.out).rds (Ox2.out).len_le (Oy2.out).len_le).mono ?_
    rintro e w' ⟨he, k3_, rfl⟩
    rw [eqL_refl] at he
    subst he
    have B3 := Lib.hid (below_drewN (B2.out) k3_)
    have Oa3 := Lib.hid ((Oa2.out).drewN k3_)
    have Ob3 := Lib.hid ((Ob2.out).drewN k3_)
    have Ox3 := Lib.hid ((Ox2.out).drewN k3_)
    have Oy3 := Lib.hid ((Oy2.out).drewN k3_)
    go_wp2_with fail
    refine (sameInts_calls _ _ _ _ [] [] _ (Ox3.out).rds (Oy3.out).rds (Ox3.out).len_le (Oy3.out).len_le).mono ?_
    rintro e w' ⟨he, k4_, rfl⟩
    rw [eqL_refl] at he
    subst he
    have B4 := Lib.hid (below_drewN (B3.out) k4_)
    have Oa4 := Lib.hid ((Oa3.out).drewN k4_)
    have Ob4 := Lib.hid ((Ob3.out).drewN k4_)
    have Ox4 := Lib.hid ((Ox3.out).drewN k4_)
    have Oy4 := Lib.hid ((Oy3.out).drewN k4_)
    go_wp2_with fail
    go_ret
    first | exact ⟨rfl, B4.out⟩ | exact ⟨rfl, by have hB := B4.out; simp only [World.drewN_drewN] at hB; exact hB⟩
  · have H := Lib.hid (tabA_yes hb)
    have H2 := Lib.hid (tabA_yes (twoB_swap hb))
    have HK := Lib.hid (tab_known hb)
    have HZ := Lib.hid (fun i k hi hk => tab36_at xs ys i k hi hk)
    have HZ2 := Lib.hid (fun i k hi hk => tab36_at ys xs i k hi hk)
    have HL := Lib.hid (tab36_len xs ys)
    have HL2 := Lib.hid (tab36_len ys xs)
    clear hb hx6 hy6
    generalize tab36 xs ys = zs at *
    generalize tab36 ys xs = us at *
    go_wp2_with fail
    refine (iSextetTable_calls _ _ _ _ xs ys _ (Oa0.out).rds (Oa0.out).len_le (Ob0.out).rds (Ob0.out).len_le (hT.below (B0.out) hT.lt)).mono ?_
    rintro e w1_ ⟨v1_, he, o1_, b1_⟩
    rw [H.out] at he o1_
    dsimp only at he o1_
    subst he
    obtain ⟨Ax, cx, rfl⟩ := o1_.slice
    have B1 := Lib.hid ((B0.out).trans (b1_.mono (B0.out).size))
    have Oa1 := Lib.hid ((Oa0.out).below b1_)
    have Ob1 := Lib.hid ((Ob0.out).below b1_)
    have Ox1 := Lib.hid (o1_.weak (B0.out).size)
    go_wp2_with fail
    refine (sSextetTable_calls _ _ _ _ xs ys _ (Oa1.out).rds (Oa1.out).len_le (Ob1.out).rds (Ob1.out).len_le).mono ?_
    rintro e w2_ ⟨v2_, he, o2_, b2_⟩
    rw [H.out] at he o2_
    dsimp only at he o2_
    subst he
    obtain ⟨Ay, cy, rfl⟩ := o2_.slice
    have B2 := Lib.hid ((B1.out).trans (b2_.mono (B1.out).size))
    have Oa2 := Lib.hid ((Oa1.out).below b2_)
    have Ob2 := Lib.hid ((Ob1.out).below b2_)
    have Ox2 := Lib.hid ((Ox1.out).below b2_)
    have Oy2 := Lib.hid (o2_.weak (B1.out).size)
    go_wp2_with fail
    refine (sameInts_calls _ _ _ _ zs zs _ (Ox2.out).rds (Oy2.out).rds (Ox2.out).len_le (Oy2.out).len_le).mono ?_
    rintro e w' ⟨he, k3_, rfl⟩
    rw [eqL_refl] at he
    subst he
    have B3 := Lib.hid (below_drewN (B2.out) k3_)
    have Oa3 := Lib.hid ((Oa2.out).drewN k3_)
    have Ob3 := Lib.hid ((Ob2.out).drewN k3_)
    have Ox3 := Lib.hid ((Ox2.out).drewN k3_)
    have Oy3 := Lib.hid ((Oy2.out).drewN k3_)
    go_wp2_with fail
    refine (iSextetTable_calls _ _ _ _ ys xs _ (Ob3.out).rds (Ob3.out).len_le (Oa3.out).rds (Oa3.out).len_le (hT.below (B3.out) hT.lt)).mono ?_
    rintro e w4_ ⟨v4_, he, o4_, b4_⟩
    rw [H2.out] at he o4_
    dsimp only at he o4_
    subst he
    obtain ⟨Az, cz, rfl⟩ := o4_.slice
    have B4 := Lib.hid ((B3.out).trans (b4_.mono (B3.out).size))
    have Oa4 := Lib.hid ((Oa3.out).below b4_)
    have Ob4 := Lib.hid ((Ob3.out).below b4_)
    have Ox4 := Lib.hid ((Ox3.out).below b4_)
    have Oy4 := Lib.hid ((Oy3.out).below b4_)
    have Oz4 := Lib.hid (o4_.weak (B3.out).size)
    have HX := Lib.hid (Ox4.out)
    have HU := Lib.hid (Oz4.out)
    have HBZ := Lib.hid (B4.out)
    obtain ⟨g, hg, _, _⟩ := own_at HX.out (by rw [HL.out]; decide)
    subst hg
    obtain ⟨g2, hg2, _, _⟩ := own_at HU.out (by rw [HL2.out]; decide)
    subst hg2
    have hl36 : ((zs.length : Nat) : Int) = 36 := by rw [HL.out]; rfl
    have hl36' : ((us.length : Nat) : Int) = 36 := by rw [HL2.out]; rfl
    generalize hnz : zs.length = nz at *
    generalize hnu : us.length = nu at *
    have HNZ := Lib.hid hnz
    have HNU := Lib.hid hnu
    clear hnz hnu
    go_wp2_with fail
    go_loopw [11] (fun i wr => ∃ p : Nat, p ≤ 6 ∧ i = .int .i64 p ∧ Hid (Own wr w.heap.size (.slice (some ⟨g, 0, none⟩) nz cx) zs) ∧ Hid (Own wr w.heap.size (.slice (some ⟨g2, 0, none⟩) nu cz) us) ∧ Hid (Below w.heap.size w wr)) (fun i _ => 6 - (intOf i).toNat)
    case atStart => exact ⟨0, by omega, rfl, HX, HU, HBZ⟩
    case round =>
      obtain ⟨p, hp, rfl, ho, hu, hbl⟩ := hrel
      by_cases hlt : p < 6
      · have hp1 : (0 : Int) ≤ (p : Int) := by omega
        have hp2 : (p : Int) < 6 := by omega
        obtain ⟨hr4, hc4⟩ := HK.out p hlt
        have HR4 := Lib.hid hr4
        have HC4 := Lib.hid hc4
        clear hr4 hc4
        go_wp2_with fail
        go_loopw [12, 13, 14] (fun r c i wr => ∃ k : Nat, k ≤ 6 ∧ i = .int .i64 k ∧ r = .int .i64 (rowTo (xs.getD p 0) ys k) ∧ c = .int .i64 (rowTo (ys.getD p 0) xs k) ∧ Hid (Own wr w.heap.size (.slice (some ⟨g, 0, none⟩) nz cx) zs) ∧ Hid (Own wr w.heap.size (.slice (some ⟨g2, 0, none⟩) nu cz) us) ∧ Hid (Below w.heap.size w wr)) (fun _ _ i _ => 6 - (intOf i).toNat)
        case atStart => exact ⟨0, by omega, rfl, rfl, rfl, ho, hu, hbl⟩
        case round =>
          obtain ⟨k, hk, rfl, rfl, rfl, ho, hu, hbl⟩ := hrel
          by_cases hlt2 : k < 6
          · have hk1 : (0 : Int) ≤ (k : Int) := by omega
            have hk2 : (k : Int) < 6 := by omega
            have e1 := HZ.out p k hlt hlt2
            have e2 := HZ.out k p hlt2 hlt
            have e3 := HZ2.out k p hlt2 hlt
            have hc1 := ho.out.cell (j := 6 * p + k) (by rw [HNZ.out, HL.out]; omega)
            have hc2 := ho.out.cell (j := 6 * k + p) (by rw [HNZ.out, HL.out]; omega)
            have hc3 := hu.out.cell (j := 6 * k + p) (by rw [HNU.out, HL2.out]; omega)
            rw [e1] at hc1
            rw [e2] at hc2
            rw [e3] at hc3
            have t1 := tabE_rng xs ys p k
            have t2 := tabE_rng xs ys k p
            have HS1 := Lib.hid (show rowTo (xs.getD p 0) ys (k + 1) = rowTo (xs.getD p 0) ys k + tabE xs ys p k from rfl)
            have HS2 := Lib.hid (show rowTo (ys.getD p 0) xs (k + 1) = rowTo (ys.getD p 0) xs k + tabE xs ys k p by rw [tabE_comm xs ys k p]; rfl)
            rw [tabE_comm ys xs k p] at hc3
            have q1 := rowTo_rng (xs.getD p 0) ys k
            have q2 := rowTo_rng (ys.getD p 0) xs k
            have q3 : rowTo (xs.getD p 0) ys k ≤ 144 := by omega
            have q4 : rowTo (ys.getD p 0) xs k ≤ 144 := by omega
            have q5 := q1.1
            have q6 := q2.1
            clear q1 q2 e1 e2 e3
            generalize rowTo (xs.getD p 0) ys k = r at *
            generalize rowTo (ys.getD p 0) xs k = c at *
            generalize tabE xs ys p k = x at *
            generalize tabE xs ys k p = y at *
            obtain ⟨t1a, t1b⟩ := t1
            obtain ⟨t2a, t2b⟩ := t2
            obtain ⟨n1, hn1⟩ : ∃ n1, 6 * p + k = n1 := ⟨_, rfl⟩
            obtain ⟨n2, hn2⟩ : ∃ n2, 6 * k + p = n2 := ⟨_, rfl⟩
            have hi1 : 6 * (p : Int) + (k : Int) = (n1 : Int) := by omega
            have hi2 : 6 * (k : Int) + (p : Int) = (n2 : Int) := by omega
            have hj1 : (0 : Int) ≤ (n1 : Int) := by omega
            have hj2 : (0 : Int) ≤ (n2 : Int) := by omega
            have hj3 : (n1 : Int) < 36 := by omega
            have hj4 : (n2 : Int) < 36 := by omega
            have hj5 : (n1 : Int) < (nz : Int) := by omega
            have hj6 : (n2 : Int) < (nz : Int) := by omega
            have hj7 : (n2 : Int) < (nu : Int) := by omega
            have hw1 : IntKind.i64.wrap (6 * (p : Int)) = 6 * (p : Int) := by rw [IntKind.wrap_i64]; omega
            have hw2 : IntKind.i64.wrap (6 * (k : Int)) = 6 * (k : Int) := by rw [IntKind.wrap_i64]; omega
            have hw3 : IntKind.i64.wrap (6 * (p : Int) + (k : Int)) = (n1 : Int) := by rw [IntKind.wrap_i64]; omega
            have hw4 : IntKind.i64.wrap (6 * (k : Int) + (p : Int)) = (n2 : Int) := by rw [IntKind.wrap_i64]; omega
            rw [hn1] at hc1
            rw [hn2] at hc2 hc3
            clear hn1 hn2
            go_wp2_with fail
            go_quiet (fail)
            go_wp2_with fail
            go_roundw
            case rel => first | exact ⟨k + 1, by omega, by go_num, by rw [HS1.out], by rw [HS2.out], ho, hu, hbl⟩ | exact ⟨k + 1, by omega, by go_num, by rw [HS1.out], by rw [HS2.out], Lib.hid (ho.out.drewN _), Lib.hid (hu.out.drewN _), Lib.hid (below_drewN hbl.out _)⟩
            case measure => simp [intOf]; omega
          · obtain rfl : k = 6 := by omega
            rw [HR4.out, HC4.out]
            go_wp2_with fail
            go_roundw
            case rel => exact ⟨p + 1, by omega, by go_num, ho, hu, hbl⟩
            case measure => simp [intOf]; omega
      · obtain rfl : p = 6 := by omega
        go_wp2_with fail
        go_ret
        exact ⟨rfl, hbl.out⟩
end Go.Proofs.YtagniijhbiglaaaDoor
