/- The walk of promise 56. -/
import Derived.Test.YtakefnfhjiodnaaC119
import Derived.Test.YtakefnfhjiodnaaC115
import Derived.Test.YtakefnfhjiodnaaM35
import Derived.Test.YtakefnfhjiodnaaQ3
import Derived.Test.YtakefnfhjiodnaaW8
namespace Go.Proofs.Ytakefnfhjiodnaa
open Go.RowKit
set_option linter.unusedVariables false
attribute [local irreducible] cN syn

theorem fix_xor (P : List Nat) (k : Nat) (h : P.getD k 0 = k) : fixTo P (k + 1) = fixTo P k ^^^ 2 ^ k := by
  have h1 := fixTo_add P k h
  rw [xorI_pow] at h1
  omega
theorem ones_to {P : List Nat} (h : PermN P) : ∀ k, k ≤ 24 → (cyTo P k).1.count 1 = pop (fixTo P k)
  | 0, _ => by show ([] : List Nat).count 1 = pop 0; decide
  | k + 1, hk => by
    have ih := ones_to h k (by omega)
    have hlt := fixTo_lt P k
    obtain ⟨s1, s2, s3, s4⟩ := ord_spec h k (by omega)
    by_cases hf : P.getD k 0 = k
    · have hb : (cyTo P k).2.testBit k = false := by
        rcases hb : (cyTo P k).2.testBit k with _ | _
        · rfl
        · obtain ⟨i, a, hi, e⟩ := (cyTo_seen h k (by omega) k).1 hb
          have hfix : ∀ a, itN P a k = k := fun a => by
            induction a with
            | zero => rfl
            | succ a ih => show P.getD (itN P a k) 0 = k; rw [ih, hf]
          have := itN_inj h a i k (by omega) (by omega) (by rw [e, hfix a])
          omega
      have ho : ordI P k = 1 := by
        by_cases h1 : ordI P k = 1
        · exact h1
        · exact absurd hf (s4 1 (by omega) (by omega))
      rw [cyTo_new_succ h k (by omega) hb, fix_xor P k hf, pop_fresh _ _ (by omega) (Nat.testBit_lt_two_pow hlt), ho]
      simp [List.count_append, ih]
    · have e : fixTo P (k + 1) = fixTo P k := by rw [fixTo, if_neg hf]; omega
      rw [e]
      rcases hb : (cyTo P k).2.testBit k with _ | _
      · have ho : ordI P k ≠ 1 := fun h1 => hf (by rw [h1] at s1; exact s1)
        rw [cyTo_new_succ h k (by omega) hb]
        simp [List.count_append, ih, ho]
      · rw [cyTo_seen_succ P k hb]; exact ih
theorem sum_take (cs : List Int) (k : Nat) (hk : k < cs.length) : (cs.take (k + 1)).sum = (cs.take k).sum + cs.getD k 0 := by
  rw [List.take_succ_eq_append_getElem hk, List.sum_append]
  simp [hk]
theorem count_take (cs : List Int) (k : Nat) (hk : k < cs.length) : (((cs.take (k + 1)).count 1 : Nat) : Int) = ((cs.take k).count 1 : Nat) + (if cs.getD k 0 = 1 then 1 else 0) := by
  rw [List.take_succ_eq_append_getElem hk, List.count_append, show cs.getD k 0 = cs[k] by simp [hk]]
  by_cases h1 : cs[k] = 1
  · simp [h1]
  · simp [h1]
theorem sum_rng (cs : List Int) (hr : ∀ k, k < cs.length → 1 ≤ cs.getD k 0 ∧ cs.getD k 0 ≤ 24) : ∀ k, k ≤ cs.length → 0 ≤ (cs.take k).sum ∧ (cs.take k).sum ≤ 24 * (k : Int)
  | 0, _ => by simp
  | k + 1, hk => by
    have ih := sum_rng cs hr k (by omega)
    have := hr k (by omega)
    rw [sum_take cs k (by omega)]
    omega
theorem sum_perm {ps qs : List Int} (h : ps.Perm qs) : ps.sum = qs.sum := by
  induction h with
  | nil => rfl
  | cons x _ ih => simp [ih]
  | swap x y l => simp; omega
  | trans _ _ h1 h2 => exact h1.trans h2
theorem sum_intP : ∀ L : List Nat, (intP L).sum = ((L.sum : Nat) : Int)
  | [] => rfl
  | x :: L => by
    have := sum_intP L
    simp only [intP, List.map_cons, List.sum_cons] at *
    rw [this]; omega
theorem count_intP : ∀ L : List Nat, (intP L).count 1 = L.count 1
  | [] => rfl
  | x :: L => by
    have := count_intP L
    simp only [intP, List.map_cons, List.count_cons] at *
    rw [this]
    by_cases h : x = 1
    · subst h; simp
    · have : ¬ ((x : Int) = 1) := by omega
      simp [h, this]
theorem cycles_facts {xs : List Int} (h : permB xs = true) : ∃ (cs : List Int) (f o : Int) (S C : Nat → Int), plCycles xs = (cs, true) ∧ plFixed xs = (f, true) ∧ IsW f ∧ wt f = o ∧ cs.length ≤ 24 ∧ (∀ k, k < cs.length → 1 ≤ cs.getD k 0 ∧ cs.getD k 0 ≤ 24)
    ∧ (∀ k, 0 < k → k < cs.length → cs.getD (k - 1) 0 ≤ cs.getD k 0) ∧ S 0 = 0 ∧ C 0 = 0 ∧ S cs.length = 24 ∧ C cs.length = o ∧ (∀ k, k < cs.length → S (k + 1) = S k + cs.getD k 0) ∧ (∀ k, k < cs.length → C (k + 1) = C k + (if cs.getD k 0 = 1 then 1 else 0))
    ∧ (∀ k, k ≤ cs.length → 0 ≤ S k ∧ S k ≤ 576) ∧ (∀ k, k ≤ cs.length → 0 ≤ C k ∧ C k ≤ 24) := by
  obtain ⟨hP, e⟩ := permB_perm h
  have hp := List.mergeSort_perm (intP (rawC (natP xs))) (fun x y => decide (x ≤ y))
  have hs := List.pairwise_mergeSort (le := fun x y : Int => decide (x ≤ y)) (fun a b c h1 h2 => by simp at *; omega) (fun a b => by simp; omega) (intP (rawC (natP xs)))
  have hl : (cycI xs).length ≤ 24 := by
    rw [show (cycI xs).length = (intP (rawC (natP xs))).length from hp.length_eq, intP_len]
    exact rawC_len hP
  have hr : ∀ k, k < (cycI xs).length → 1 ≤ (cycI xs).getD k 0 ∧ (cycI xs).getD k 0 ≤ 24 := fun k hk => by
    have hm : (cycI xs).getD k 0 ∈ cycI xs := by rw [show (cycI xs).getD k 0 = (cycI xs)[k] by simp [hk]]; exact List.getElem_mem hk
    obtain ⟨y, hy, hy2⟩ := List.mem_map.1 (hp.mem_iff.1 hm)
    have := rawC_rng hP y hy
    omega
  refine ⟨cycI xs, _, _, fun k => ((cycI xs).take k).sum, fun k => (((cycI xs).take k).count 1 : Nat), by simp [plCycles, h], by simp [plFixed, h]; rfl, ?_, rfl, hl, hr, ?_, rfl, rfl, ?_, ?_, fun k hk => sum_take _ k hk, fun k hk => count_take _ k hk, ?_, ?_⟩
  · have := fixTo_rng (natP xs) 24 (by omega)
    exact ⟨this.1, by omega⟩
  · intro k h0 hk
    have := List.pairwise_iff_getElem.1 hs (k - 1) k (by show k - 1 < (cycI xs).length; omega) hk (by omega)
    rw [show (cycI xs).getD (k - 1) 0 = (cycI xs)[k - 1]'(by omega) by simp [show k - 1 < (cycI xs).length by omega], show (cycI xs).getD k 0 = (cycI xs)[k] by simp [hk]]
    exact of_decide_eq_true this
  · show ((cycI xs).take (cycI xs).length).sum = 24
    rw [List.take_of_length_le (Nat.le_refl _), show (cycI xs).sum = (intP (rawC (natP xs))).sum from sum_perm hp, sum_intP, rawC_sum hP]
    rfl
  · show ((((cycI xs).take (cycI xs).length).count 1 : Nat) : Int) = _
    rw [List.take_of_length_le (Nat.le_refl _), show (cycI xs).count 1 = (intP (rawC (natP xs))).count 1 from hp.count_eq 1, count_intP, wt_pop]
    exact congrArg _ (ones_to hP 24 (by omega))
  · intro k hk
    have := sum_rng _ hr k hk
    refine ⟨this.1, ?_⟩
    show ((cycI xs).take k).sum ≤ 576
    omega
  · intro k hk
    have h1 : ((cycI xs).take k).count 1 ≤ ((cycI xs).take k).length := List.count_le_length
    rw [List.length_take] at h1
    refine ⟨?_, ?_⟩
    · show (0 : Int) ≤ (((cycI xs).take k).count 1 : Nat)
      omega
    · show ((((cycI xs).take k).count 1 : Nat) : Int) ≤ 24
      omega
set_option maxHeartbeats 4000000 in
theorem walk_FnCycles (a0 : Option Addr) (len0 cap0 : Nat) (z0 : List Int) (w : World) (w0 : IsRow .u8 w a0 len0 cap0 z0) :
    Calls Try.prog 3 #[.slice a0 len0 cap0] w fun e w' => e = .returned (.bool true) ∧ Below w.heap.size w w' := by
  obtain ⟨bs, rfl, hr, hc, hm, hv⟩ := w0.bytes
  have hm' := hm
  unfold maxLen at hm'
  by_cases hbig : 1048576 < bs.length
  · go_enter Try.func3, Try.ntmps3
    go_wp2_with fail
    go_ret
    exact ⟨rfl, Below.refl _ _⟩
  have hbig' : bs.length ≤ 1048576 := by omega
  clear hbig
  go_enter Try.func3, Try.ntmps3
  go_wp2_with fail
  refine (DrawPermCycles_calls _ _ bs _ hr hc hm hv).mono ?_
  rintro e w1 ⟨v, xs, rfl, o1, hl, b1⟩
  obtain ⟨Aa, ca, rfl⟩ := o1.slice
  have B0 := Lib.hid (b1)
  have Oa0 := Lib.hid (o1)
  rcases hb : permB xs with _ | _
  · have H := Lib.hid (show plCycles xs = ([], false) by simp [plCycles, hb])
    clear hb
    go_wp2_with fail
    refine (iPermCycles_calls Aa ca xs _ (Oa0.out).rds (Oa0.out).len_le).mono ?_
    rintro e w1_ ⟨v1_, he, o1_, b1_⟩
    rw [H.out] at he o1_
    dsimp only at he o1_
    subst he
    obtain ⟨Ax, cx, rfl⟩ := o1_.slice
    have B1 := Lib.hid ((B0.out).trans (b1_.mono (B0.out).size))
    have Oa1 := Lib.hid ((Oa0.out).below b1_)
    have Ox1 := Lib.hid (o1_.weak (B0.out).size)
    go_wp2_with fail
    refine (sPermCycles_calls Aa ca xs _ (Oa1.out).rds (Oa1.out).len_le).mono ?_
    rintro e w2_ ⟨v2_, he, o2_, b2_⟩
    rw [H.out] at he o2_
    dsimp only at he o2_
    subst he
    obtain ⟨Ay, cy, rfl⟩ := o2_.slice
    have B2 := Lib.hid ((B1.out).trans (b2_.mono (B1.out).size))
    have Oa2 := Lib.hid ((Oa1.out).below b2_)
    have Ox2 := Lib.hid ((Ox1.out).below b2_)
    have Oy2 := Lib.hid (o2_.weak (B1.out).size)
    go_wp2_with fail
    refine (sameInts_calls _ _ _ _ [] [] _ (Ox2.out).rds (Oy2.out).rds (Ox2.out).len_le (Oy2.out).len_le).mono ?_
    rintro e w' ⟨he, k3_, rfl⟩
    rw [eqL_refl] at he
    subst he
    have B3 := Lib.hid (below_drewN (B2.out) k3_)
    have Oa3 := Lib.hid ((Oa2.out).drewN k3_)
    have Ox3 := Lib.hid ((Ox2.out).drewN k3_)
    have Oy3 := Lib.hid ((Oy2.out).drewN k3_)
    go_wp2_with fail
    refine (sameInts_calls _ _ _ _ [] [] _ (Ox3.out).rds (Oy3.out).rds (Ox3.out).len_le (Oy3.out).len_le).mono ?_
    rintro e w' ⟨he, k4_, rfl⟩
    rw [eqL_refl] at he
    subst he
    have B4 := Lib.hid (below_drewN (B3.out) k4_)
    have Oa4 := Lib.hid ((Oa3.out).drewN k4_)
    have Ox4 := Lib.hid ((Ox3.out).drewN k4_)
    have Oy4 := Lib.hid ((Oy3.out).drewN k4_)
    go_wp2_with fail
    go_ret
    first | exact ⟨rfl, B4.out⟩ | exact ⟨rfl, by have hB := B4.out; simp only [World.drewN_drewN] at hB; exact hB⟩
  · obtain ⟨cs, f, o, S, C, f1, f2, hf, f3, f4, f5, f6, f7, f8, f9, f10, f11, f12, f13, f14⟩ := cycles_facts hb
    have F1 := Lib.hid f1
    have F2 := Lib.hid f2
    have F3 := Lib.hid f3
    have F4 := Lib.hid f4
    have F5 := Lib.hid f5
    have F6 := Lib.hid f6
    have F7 := Lib.hid f7
    have F8 := Lib.hid f8
    have F9 := Lib.hid f9
    have F10 := Lib.hid f10
    have F11 := Lib.hid f11
    have F12 := Lib.hid f12
    have F13 := Lib.hid f13
    have F14 := Lib.hid f14
    clear hb f1 f2 f4 f5 f6 f7 f8 f9 f10 f11 f12 f13 f14
    go_wp2_with fail
    refine (iPermCycles_calls Aa ca xs _ (Oa0.out).rds (Oa0.out).len_le).mono ?_
    rintro e w1_ ⟨v1_, he, o1_, b1_⟩
    rw [F1.out] at he o1_
    dsimp only at he o1_
    subst he
    obtain ⟨Ax, cx, rfl⟩ := o1_.slice
    have B1 := Lib.hid ((B0.out).trans (b1_.mono (B0.out).size))
    have Oa1 := Lib.hid ((Oa0.out).below b1_)
    have Ox1 := Lib.hid (o1_.weak (B0.out).size)
    go_wp2_with fail
    refine (sPermCycles_calls Aa ca xs _ (Oa1.out).rds (Oa1.out).len_le).mono ?_
    rintro e w2_ ⟨v2_, he, o2_, b2_⟩
    rw [F1.out] at he o2_
    dsimp only at he o2_
    subst he
    obtain ⟨Ay, cy, rfl⟩ := o2_.slice
    have B2 := Lib.hid ((B1.out).trans (b2_.mono (B1.out).size))
    have Oa2 := Lib.hid ((Oa1.out).below b2_)
    have Ox2 := Lib.hid ((Ox1.out).below b2_)
    have Oy2 := Lib.hid (o2_.weak (B1.out).size)
    go_wp2_with fail
    refine (sameInts_calls _ _ _ _ cs cs _ (Ox2.out).rds (Oy2.out).rds (Ox2.out).len_le (Oy2.out).len_le).mono ?_
    rintro e w' ⟨he, k3_, rfl⟩
    rw [eqL_refl] at he
    subst he
    have B3 := Lib.hid (below_drewN (B2.out) k3_)
    have Oa3 := Lib.hid ((Oa2.out).drewN k3_)
    have Ox3 := Lib.hid ((Ox2.out).drewN k3_)
    have Oy3 := Lib.hid ((Oy2.out).drewN k3_)
    have HX := Lib.hid (Ox3.out)
    have HBZ := Lib.hid (B3.out)
    have HAZ := Lib.hid (Oa3.out)
    go_wp2_with fail
    obtain ⟨W0, hW0⟩ : ∃ W0, W0 = w2_.drewN k3_ := ⟨_, rfl⟩
    rw [← hW0] at HX HBZ HAZ ⊢
    go_loopw [8, 9, 10] (fun n p i wq => ∃ k m : Nat, k ≤ cs.length ∧ i = .int .i64 k ∧ n = .int .i64 (S k) ∧ p = .int .i64 (C k) ∧ Hid (wq = W0.drewN m)) (fun _ _ i _ => cs.length - (intOf i).toNat)
    case atStart => exact ⟨0, 0, by omega, rfl, by rw [F7.out], by rw [F8.out], Lib.hid rfl⟩
    case round =>
      obtain ⟨k, m, hk, rfl, rfl, rfl, HW⟩ := hrel
      have hl3 := F4.out
      obtain ⟨s1, s2⟩ := F13.out k hk
      obtain ⟨q1, q2⟩ := F14.out k hk
      by_cases hlt : k < cs.length
      · have hO := HX.out
        obtain ⟨g, hg, hgb, _⟩ := own_at hO (by omega : 0 < cs.length)
        rw [hg] at hO
        have hci : wr.cell? ⟨g, k, none⟩ = some (.int .i64 (cs.getD k 0)) := by rw [HW.out]; exact (hO.drewN m).cell hlt
        have hcd : wr.cell? ⟨g, k - 1, none⟩ = some (.int .i64 (cs.getD (k - 1) 0)) := by rw [HW.out]; exact (hO.drewN m).cell (by omega)
        clear hO
        subst hg
        obtain ⟨c1, c2⟩ := F5.out k hlt
        have HLE := Lib.hid (fun h0 => F6.out k h0 hlt)
        have HSS := Lib.hid (F11.out k hlt)
        have HCC := Lib.hid (F12.out k hlt)
        have hk0 : (0 : Int) ≤ (k : Int) := by omega
        have hkl : (k : Int) < (cs.length : Int) := by omega
        generalize cs.getD k 0 = c at *
        generalize cs.getD (k - 1) 0 = d at *
        generalize hSk : S k = s at *
        generalize hCk : C k = p at *
        have HSk := Lib.hid hSk
        have HCk := Lib.hid hCk
        clear hSk hCk
        by_cases hk1 : 0 < k
        · have hle := HLE.out hk1
          have hlf : decide (c < d) = false := by simp; omega
          have hkp : (k : Int) > 0 := by omega
          have hkm : (0 : Int) ≤ (k : Int) - 1 := by omega
          have hkm2 : (k : Int) - 1 < (cs.length : Int) := by omega
          have hkw : IntKind.i64.wrap ((k : Int) - 1) = ((k - 1 : Nat) : Int) := by
            rw [show (k : Int) - 1 = ((k - 1 : Nat) : Int) by omega]; exact wrap_i64_in _ (by omega) (by omega)
          by_cases h1 : c = 1
          · have HC1 := Lib.hid (show C (k + 1) = p + 1 by rw [HCC.out]; simp [h1])
            clear HCC
            subst h1
            go_wp2_with fail
            go_quiet (fail)
            all_goals
              go_wp2_with fail
              go_roundw
              case rel => exact ⟨k + 1, _, by omega, by go_num, by rw [HSS.out], by rw [HC1.out], Lib.hid (by rw [HW.out, World.drewN_drewN])⟩
              case measure => simp [intOf]; omega
          · have HC1 := Lib.hid (show C (k + 1) = p by rw [HCC.out]; simp [h1])
            clear HCC
            have h11 : (c == 1) = false := by simpa using h1
            go_wp2_with fail
            go_quiet (fail)
            all_goals
              go_wp2_with fail
              go_roundw
              case rel => exact ⟨k + 1, _, by omega, by go_num, by rw [HSS.out], by rw [HC1.out], Lib.hid (by rw [HW.out, World.drewN_drewN])⟩
              case measure => simp [intOf]; omega
        · obtain rfl : k = 0 := by omega
          clear hcd
          by_cases h1 : c = 1
          · have HC1 := Lib.hid (show C (0 + 1) = p + 1 by rw [HCC.out]; simp [h1])
            clear HCC
            subst h1
            go_wp2_with fail
            go_quiet (fail)
            all_goals
              go_wp2_with fail
              go_roundw
              case rel => exact ⟨0 + 1, _, by omega, by go_num, by rw [HSS.out], by rw [HC1.out], Lib.hid (by rw [HW.out, World.drewN_drewN])⟩
              case measure => simp [intOf]; omega
          · have HC1 := Lib.hid (show C (0 + 1) = p by rw [HCC.out]; simp [h1])
            clear HCC
            have h11 : (c == 1) = false := by simpa using h1
            go_wp2_with fail
            go_quiet (fail)
            all_goals
              go_wp2_with fail
              go_roundw
              case rel => exact ⟨0 + 1, _, by omega, by go_num, by rw [HSS.out], by rw [HC1.out], Lib.hid (by rw [HW.out, World.drewN_drewN])⟩
              case measure => simp [intOf]; omega
      · obtain rfl : k = cs.length := by omega
        rw [F9.out, F10.out]
        have hAr := HAZ.out.drewN m
        rw [← HW.out] at hAr
        have hBr : Below w.heap.size w wr := by rw [HW.out]; exact below_drewN HBZ.out m
        have HAR := Lib.hid hAr
        have HBR := Lib.hid hBr
        have HWT := Lib.hid f3
        have HWI := Lib.hid (fun W => iWordWeight_ok f W hf)
        clear hAr hBr s1 s2 q1 q2
        go_wp2_with fail
        refine (iPermFixed_calls Aa ca xs wr HAR.out.rds HAR.out.len_le).mono ?_
        rintro e w5 ⟨he, b5⟩
        rw [F2.out] at he
        dsimp only at he
        subst he
        have HB5 := Lib.hid (HBR.out.trans (b5.mono HBR.out.size))
        clear b5
        go_wp2_with fail
        refine (HWI.out _).mono ?_
        rintro e w' ⟨he, kk, rfl⟩
        rw [HWT.out] at he
        subst he
        go_wp2_with fail
        go_ret
        exact ⟨rfl, below_drewN HB5.out kk⟩
end Go.Proofs.Ytakefnfhjiodnaa
