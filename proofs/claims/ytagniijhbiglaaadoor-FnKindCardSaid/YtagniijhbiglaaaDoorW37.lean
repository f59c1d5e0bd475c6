/- The walk of promise 40. -/
import Derived.Test.YtagniijhbiglaaaDoorC62
import Derived.Test.YtagniijhbiglaaaDoorW35
import Derived.Test.YtagniijhbiglaaaDoorM24
namespace Go.Proofs.YtagniijhbiglaaaDoor
open Go.RowKit
set_option linter.unusedVariables false
attribute [local irreducible] octS cN octF syn

theorem mx_at (T : List Int) : ∀ n, mxTo T n = 0 ∨ ∃ j, j < n ∧ mxTo T n = T.getD j 0
  | 0 => .inl rfl
  | n + 1 => by
    rw [mxTo]
    by_cases h : mxTo T n ≤ T.getD n 0
    · exact .inr ⟨n, by omega, by omega⟩
    · rcases mx_at T n with e | ⟨j, hj, e⟩
      · exact .inl (by omega)
      · exact .inr ⟨j, by omega, by omega⟩
theorem mx_swap_le (xs ys : List Int) : mxTo (tab36 xs ys) 36 ≤ mxTo (tab36 ys xs) 36 := by
  rcases mx_at (tab36 xs ys) 36 with e | ⟨j, hj, e⟩
  · rw [e]; exact mxTo_nonneg _ _
  · have h1 := tab36_at xs ys (j / 6) (j % 6) (by omega) (by omega)
    have h2 := tab36_at ys xs (j % 6) (j / 6) (by omega) (by omega)
    rw [show 6 * (j / 6) + j % 6 = j by omega] at h1
    rw [e, h1, tabE_comm, ← h2]
    exact mxTo_le _ 36 _ (by omega)
theorem mx_swap (xs ys : List Int) : mxTo (tab36 ys xs) 36 = mxTo (tab36 xs ys) 36 := Int.le_antisymm (mx_swap_le ys xs) (mx_swap_le xs ys)
theorem has_tab (xs ys : List Int) (m : Int) (i : Nat) (hi : i < 6) : hasTo (tab36 xs ys) m i 6 = decide (has6 (tabE xs ys i) m) := by
  rw [Bool.eq_iff_iff, decide_eq_true_eq]
  unfold has6
  rw [← tab36_at xs ys i 0 hi (by omega), ← tab36_at xs ys i 1 hi (by omega), ← tab36_at xs ys i 2 hi (by omega), ← tab36_at xs ys i 3 hi (by omega), ← tab36_at xs ys i 4 hi (by omega), ← tab36_at xs ys i 5 hi (by omega)]
  simp only [hasTo, Bool.false_or, Bool.or_eq_true, beq_iff_eq, or_assoc]
theorem cnt_tab (xs ys : List Int) (m : Int) : cntTo (tab36 xs ys) m 6 = rowsN (tabE xs ys) m := by
  have e : ∀ i, i < 6 → (if hasTo (tab36 xs ys) m i 6 then 1 else 0 : Nat) = if has6 (tabE xs ys i) m then 1 else 0 := fun i hi => by
    rw [has_tab xs ys m i hi]
    by_cases h : has6 (tabE xs ys i) m
    · rw [if_pos h, decide_eq_true h, if_pos rfl]
    · rw [if_neg h, decide_eq_false h]; rfl
  unfold rowsN on6
  dsimp only
  rw [← e 0 (by omega), ← e 1 (by omega), ← e 2 (by omega), ← e 3 (by omega), ← e 4 (by omega), ← e 5 (by omega)]
  simp only [cntTo]
  omega
theorem tet_eq {x y : Int} (hx : Tet x) (hy : Tet y) (h : wt (andI x y) = 4) : x = y := by
  obtain ⟨a, rfl, ha, pa⟩ := hx.nat
  obtain ⟨b, rfl, hb, pb⟩ := hy.nat
  rw [andI_nat, wt_pop] at h
  have p := pop_xor a b
  have hz : pop (a ^^^ b) = 0 := by omega
  have h0 : a ^^^ b = 0 := by
    exact pop_zero _ (Nat.xor_lt_two_pow (n := 24) ha hb) hz
  have : a = b := by
    have := congrArg (fun z => z ^^^ b) h0
    simp only [Nat.xor_assoc, Nat.xor_self, Nat.xor_zero, Nat.zero_xor] at this
    exact this
  rw [this]
theorem andI_self {x : Int} (h : 0 ≤ x) : andI x x = x := by
  obtain ⟨n, rfl⟩ := Int.eq_ofNat_of_zero_le h
  rw [andI_nat, Nat.and_self]
theorem sum_tab (xs ys : List Int) (i : Nat) (h : rowTo (xs.getD i 0) ys 6 = 4) : sum6 (tabE xs ys i) = 4 := by
  rw [← h]
  unfold sum6 tabE
  simp only [rowTo]
  omega
/-- What is known of the kinds of two sextets. -/
theorem kind_known {xs ys : List Int} (h : twoB xs ys = true) : kindV (tab36 ys xs) = kindV (tab36 xs ys) ∧ (kindV (tab36 xs ys) = 46 ↔ xs = ys) := by
  have hk := tab_known h
  unfold twoB at h
  rw [Bool.and_eq_true] at h
  obtain ⟨u, hu, rfl⟩ := (sxB_iff xs).1 h.1
  obtain ⟨v, hv, rfl⟩ := (sxB_iff ys).1 h.2
  have hle : ∀ i k, i < 6 → k < 6 → 0 ≤ tabE (sxOf u) (sxOf v) i k ∧ tabE (sxOf u) (sxOf v) i k ≤ mxTo (tab36 (sxOf u) (sxOf v)) 36 := fun i k hi hk => by
    refine ⟨(tabE_rng _ _ _ _).1, ?_⟩
    rw [← tab36_at _ _ i k hi hk]
    exact mxTo_le _ 36 _ (by omega)
  have hs : ∀ i, i < 6 → sum6 (tabE (sxOf u) (sxOf v) i) = 4 := fun i hi => sum_tab _ _ i (hk i hi).1
  have hfun : (fun k i => tabE (sxOf u) (sxOf v) i k) = tabE (sxOf v) (sxOf u) := funext fun k => funext fun i => tabE_comm _ _ _ _
  have hs2 : ∀ k, k < 6 → sum6 (fun i => tabE (sxOf u) (sxOf v) i k) = 4 := fun k hk' => by
    rw [show (fun i => tabE (sxOf u) (sxOf v) i k) = tabE (sxOf v) (sxOf u) k from congrFun hfun k]
    exact sum_tab _ _ k (hk k hk').2
  refine ⟨?_, ?_⟩
  · unfold kindV
    rw [mx_swap, cnt_tab, cnt_tab, rows_cols _ _ hle hs hs2 (fun i k hi hk' => tab_even hu hv i k hi hk'), hfun]
  · have hM4 : mxTo (tab36 (sxOf u) (sxOf v)) 36 ≤ 4 := by
      rcases mx_at (tab36 (sxOf u) (sxOf v)) 36 with e | ⟨j, hj, e⟩
      · omega
      · have h1 := tab36_at (sxOf u) (sxOf v) (j / 6) (j % 6) (by omega) (by omega)
        rw [show 6 * (j / 6) + j % 6 = j by omega] at h1
        rw [e, h1]
        have hi : j / 6 < 6 := by omega
        have s := hs (j / 6) hi
        unfold sum6 at s
        have a0 := (hle (j / 6) 0 hi (by omega)).1
        have a1 := (hle (j / 6) 1 hi (by omega)).1
        have a2 := (hle (j / 6) 2 hi (by omega)).1
        have a3 := (hle (j / 6) 3 hi (by omega)).1
        have a4 := (hle (j / 6) 4 hi (by omega)).1
        have a5 := (hle (j / 6) 5 hi (by omega)).1
        have hj6 : j % 6 = 0 ∨ j % 6 = 1 ∨ j % 6 = 2 ∨ j % 6 = 3 ∨ j % 6 = 4 ∨ j % 6 = 5 := by omega
        rcases hj6 with e | e | e | e | e | e <;> rw [e] <;> omega
    have hc6 := cntTo_le (tab36 (sxOf u) (sxOf v)) (mxTo (tab36 (sxOf u) (sxOf v)) 36) 6
    refine ⟨fun e => ?_, fun e => ?_⟩
    · unfold kindV at e
      have eM : mxTo (tab36 (sxOf u) (sxOf v)) 36 = 4 := by omega
      rw [eM] at e
      have ec : cntTo (tab36 (sxOf u) (sxOf v)) 4 6 = 6 := by omega
      rw [cnt_tab] at ec
      have h0 : has6 (tabE (sxOf u) (sxOf v) 0) 4 := Classical.byContradiction fun hn => by
        have hb : ∀ i, i < 6 → (if has6 (tabE (sxOf u) (sxOf v) i) 4 then 1 else 0 : Nat) ≤ 1 := fun i _ => by split <;> omega
        have b1 := hb 1 (by omega)
        have b2 := hb 2 (by omega)
        have b3 := hb 3 (by omega)
        have b4 := hb 4 (by omega)
        have b5 := hb 5 (by omega)
        unfold rowsN on6 at ec
        dsimp only at ec
        rw [if_neg hn] at ec
        omega
      have hx : ∃ k, k < 6 ∧ tabE (sxOf u) (sxOf v) 0 k = 4 := by
        unfold has6 at h0
        rcases h0 with q | q | q | q | q | q
        · exact ⟨0, by omega, q⟩
        · exact ⟨1, by omega, q⟩
        · exact ⟨2, by omega, q⟩
        · exact ⟨3, by omega, q⟩
        · exact ⟨4, by omega, q⟩
        · exact ⟨5, by omega, q⟩
      obtain ⟨k, hk6, hx⟩ := hx
      have su := sxOf_same hu (sx_at hu 0 (by omega))
      have sv := sxOf_same hv (sx_at hv k hk6)
      have := tet_eq su.1 sv.1 hx
      rw [← su.2, ← sv.2, this]
    · have ed : ∀ i, i < 6 → tabE (sxOf u) (sxOf v) i i = 4 := fun i hi => by
        unfold tabE
        rw [← e]
        have su := sxOf_same hu (sx_at hu i hi)
        rw [andI_self su.1.1, su.1.2.2]
      have m0 := (hle 0 0 (by omega) (by omega)).2
      rw [ed 0 (by omega)] at m0
      have eM : mxTo (tab36 (sxOf u) (sxOf v)) 36 = 4 := by omega
      unfold kindV
      rw [eM, cnt_tab]
      unfold rowsN on6
      dsimp only
      rw [if_pos (.inl (ed 0 (by omega))), if_pos (.inr (.inl (ed 1 (by omega)))), if_pos (.inr (.inr (.inl (ed 2 (by omega))))), if_pos (.inr (.inr (.inr (.inl (ed 3 (by omega)))))), if_pos (.inr (.inr (.inr (.inr (.inl (ed 4 (by omega))))))), if_pos (.inr (.inr (.inr (.inr (.inr (ed 5 (by omega)))))))]
      rfl
theorem kindA_no {xs ys : List Int} (h : twoB xs ys = false) : kindA xs ys = (0, false) := by unfold twoB at h; unfold kindA; rw [h]; rfl
theorem kindA_yes {xs ys : List Int} (h : twoB xs ys = true) : kindA xs ys = (kindV (tab36 xs ys), true) := by unfold twoB at h; unfold kindA; rw [h]; rfl
set_option maxRecDepth 100000 in
set_option maxHeartbeats 2000000 in
theorem walk_FnKind (a0 : Option Addr) (len0 cap0 : Nat) (z0 : List Int) (w : World) (w0 : IsRow .u8 w a0 len0 cap0 z0) (hT : Tab2 w) :
    Calls Tryd.prog 6 #[.slice a0 len0 cap0] w fun e w' => e = .returned (.bool true) ∧ Below w.heap.size w w' := by
  obtain ⟨bs, rfl, hr, hc, hm, hv⟩ := w0.bytes
  have hm' := hm
  unfold maxLen at hm'
  by_cases hbig : 1048576 < bs.length
  · go_enter Tryd.func6, Tryd.ntmps6
    go_wp2_with fail
    go_ret
    exact ⟨rfl, Below.refl _ _⟩
  have hbig' : bs.length ≤ 1048576 := by omega
  clear hbig
  go_enter Tryd.func6, Tryd.ntmps6
  go_wp2_with fail
  refine (DrawSextetKind_calls _ _ bs _ hr hc hm hv).mono ?_
  rintro e w1 ⟨v, v2, xs, ys, rfl, o1, o2, hx6, hy6, b1⟩
  obtain ⟨Aa, ca, rfl⟩ := o1.slice
  obtain ⟨Ab, cb, rfl⟩ := o2.slice
  have B0 := Lib.hid (b1)
  have Oa0 := Lib.hid (o1)
  have Ob0 := Lib.hid (o2)
  rcases hb : twoB xs ys with _ | _
  · have H := Lib.hid (kindA_no hb)
    clear hb hx6 hy6
    go_wp2_with fail
    refine (iSextetKind_calls _ _ _ _ xs ys _ (Oa0.out).rds (Oa0.out).len_le (Ob0.out).rds (Ob0.out).len_le (hT.below (B0.out) hT.lt)).mono ?_
    rintro e w1_ ⟨he, b1_⟩
    rw [H.out] at he
    dsimp only at he
    subst he
    have B1 := Lib.hid ((B0.out).trans (b1_.mono (B0.out).size))
    have Oa1 := Lib.hid ((Oa0.out).below b1_)
    have Ob1 := Lib.hid ((Ob0.out).below b1_)
    go_wp2_with fail
    refine (sSextetKind_calls _ _ _ _ xs ys _ (Oa1.out).rds (Oa1.out).len_le (Ob1.out).rds (Ob1.out).len_le).mono ?_
    rintro e w2_ ⟨he, b2_⟩
    rw [H.out] at he
    dsimp only at he
    subst he
    have B2 := Lib.hid ((B1.out).trans (b2_.mono (B1.out).size))
    have Oa2 := Lib.hid ((Oa1.out).below b2_)
    have Ob2 := Lib.hid ((Ob1.out).below b2_)
    go_wp2_with fail
    go_ret
    first | exact ⟨rfl, B2.out⟩ | exact ⟨rfl, by have hB := B2.out; simp only [World.drewN_drewN] at hB; exact hB⟩
  · have H := Lib.hid (kindA_yes hb)
    have H2 := Lib.hid (kindA_yes (twoB_swap hb))
    obtain ⟨hk1, hk2⟩ := kind_known hb
    rw [hk1] at H2
    clear hb hx6 hy6 hk1
    generalize kindV (tab36 xs ys) = KV at *
    rcases hq : eqL xs ys with _ | _
    · have hne : ¬ KV = 46 := fun h => by have := hk2.1 h; subst this; rw [eqL_refl] at hq; cases hq
      have HE := Lib.hid hq
      have hn1 : (KV == 46) = false := by simpa using hne
      clear hk2 hq hne
      go_wp2_with fail
      refine (iSextetKind_calls _ _ _ _ xs ys _ (Oa0.out).rds (Oa0.out).len_le (Ob0.out).rds (Ob0.out).len_le (hT.below (B0.out) hT.lt)).mono ?_
      rintro e w1_ ⟨he, b1_⟩
      rw [H.out] at he
      dsimp only at he
      subst he
      have B1 := Lib.hid ((B0.out).trans (b1_.mono (B0.out).size))
      have Oa1 := Lib.hid ((Oa0.out).below b1_)
      have Ob1 := Lib.hid ((Ob0.out).below b1_)
      go_wp2_with fail
      refine (sSextetKind_calls _ _ _ _ xs ys _ (Oa1.out).rds (Oa1.out).len_le (Ob1.out).rds (Ob1.out).len_le).mono ?_
      rintro e w2_ ⟨he, b2_⟩
      rw [H.out] at he
      dsimp only at he
      subst he
      have B2 := Lib.hid ((B1.out).trans (b2_.mono (B1.out).size))
      have Oa2 := Lib.hid ((Oa1.out).below b2_)
      have Ob2 := Lib.hid ((Ob1.out).below b2_)
      go_wp2_with fail
      refine (iSextetKind_calls _ _ _ _ ys xs _ (Ob2.out).rds (Ob2.out).len_le (Oa2.out).rds (Oa2.out).len_le (hT.below (B2.out) hT.lt)).mono ?_
      rintro e w3_ ⟨he, b3_⟩
      rw [H2.out] at he
      dsimp only at he
      subst he
      have B3 := Lib.hid ((B2.out).trans (b3_.mono (B2.out).size))
      have Oa3 := Lib.hid ((Oa2.out).below b3_)
      have Ob3 := Lib.hid ((Ob2.out).below b3_)
      go_wp2_with fail
      refine (sameInts_calls _ _ _ _ xs ys _ (Oa3.out).rds (Ob3.out).rds (Oa3.out).len_le (Ob3.out).len_le).mono ?_
      rintro e w' ⟨he, k4_, rfl⟩
      rw [HE.out] at he
      subst he
      have B4 := Lib.hid (below_drewN (B3.out) k4_)
      have Oa4 := Lib.hid ((Oa3.out).drewN k4_)
      have Ob4 := Lib.hid ((Ob3.out).drewN k4_)
      go_wp2_with fail
      go_ret
      first | exact ⟨rfl, B4.out⟩ | exact ⟨rfl, by have hB := B4.out; simp only [World.drewN_drewN] at hB; exact hB⟩
    · obtain rfl : KV = 46 := hk2.2 (by simpa [eqL] using hq)
      have HE := Lib.hid hq
      clear hk2 hq
      go_wp2_with fail
      refine (iSextetKind_calls _ _ _ _ xs ys _ (Oa0.out).rds (Oa0.out).len_le (Ob0.out).rds (Ob0.out).len_le (hT.below (B0.out) hT.lt)).mono ?_
      rintro e w1_ ⟨he, b1_⟩
      rw [H.out] at he
      dsimp only at he
      subst he
      have B1 := Lib.hid ((B0.out).trans (b1_.mono (B0.out).size))
      have Oa1 := Lib.hid ((Oa0.out).below b1_)
      have Ob1 := Lib.hid ((Ob0.out).below b1_)
      go_wp2_with fail
      refine (sSextetKind_calls _ _ _ _ xs ys _ (Oa1.out).rds (Oa1.out).len_le (Ob1.out).rds (Ob1.out).len_le).mono ?_
      rintro e w2_ ⟨he, b2_⟩
      rw [H.out] at he
      dsimp only at he
      subst he
      have B2 := Lib.hid ((B1.out).trans (b2_.mono (B1.out).size))
      have Oa2 := Lib.hid ((Oa1.out).below b2_)
      have Ob2 := Lib.hid ((Ob1.out).below b2_)
      go_wp2_with fail
      refine (iSextetKind_calls _ _ _ _ ys xs _ (Ob2.out).rds (Ob2.out).len_le (Oa2.out).rds (Oa2.out).len_le (hT.below (B2.out) hT.lt)).mono ?_
      rintro e w3_ ⟨he, b3_⟩
      rw [H2.out] at he
      dsimp only at he
      subst he
      have B3 := Lib.hid ((B2.out).trans (b3_.mono (B2.out).size))
      have Oa3 := Lib.hid ((Oa2.out).below b3_)
      have Ob3 := Lib.hid ((Ob2.out).below b3_)
      go_wp2_with fail
      refine (sameInts_calls _ _ _ _ xs ys _ (Oa3.out).rds (Ob3.out).rds (Oa3.out).len_le (Ob3.out).len_le).mono ?_
      rintro e w' ⟨he, k4_, rfl⟩
      rw [HE.out] at he
      subst he
      have B4 := Lib.hid (below_drewN (B3.out) k4_)
      have Oa4 := Lib.hid ((Oa3.out).drewN k4_)
      have Ob4 := Lib.hid ((Ob3.out).drewN k4_)
      go_wp2_with fail
      go_ret
      first | exact ⟨rfl, B4.out⟩ | exact ⟨rfl, by have hB := B4.out; simp only [World.drewN_drewN] at hB; exact hB⟩
end Go.Proofs.YtagniijhbiglaaaDoor
