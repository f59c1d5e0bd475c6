/- The walks of promises 52, 53 and 55. -/
import Derived.Test.YtakefnfhjiodnaaDoorC119
import Derived.Test.YtakefnfhjiodnaaDoorC109
import Derived.Test.YtakefnfhjiodnaaDoorC120
import Derived.Test.YtakefnfhjiodnaaDoorW8
import Derived.Test.YtakefnfhjiodnaaDoorM33
import Derived.Test.YtakefnfhjiodnaaDoorQ3
namespace Go.Proofs.YtakefnfhjiodnaaDoor
open Go.RowKit
set_option linter.unusedVariables false
attribute [local irreducible] cN syn

theorem plTurned_yes {xs : List Int} (h : permB xs = true) : plTurned xs = (intP (turnN (natP xs)), true) := by simp [plTurned, h]
theorem plTimes_yes {xs ys : List Int} (h : permB xs = true) (k : permB ys = true) : plTimes xs ys = (intP (thenN (natP xs) (natP ys)), true) := by simp [plTimes, h, k]
theorem plFixed_yes {xs : List Int} (h : permB xs = true) : plFixed xs = (((fixTo (natP xs) 24 : Nat) : Int), true) := by simp [plFixed, h]
theorem plWord_yes {xs : List Int} {n : Int} (h : permB xs = true) (hn : IsW n) : plWord xs n = (((movN (natP xs) n.toNat : Nat) : Int), true) := by
  have : wdB n = true := by simpa [wdB, IsW] using hn
  simp [plWord, h, this]
theorem plTurned_no {xs : List Int} (h : permB xs = false) : plTurned xs = ([], false) := by simp [plTurned, h]
theorem fix_id : fixTo idN 24 = 16777215 := by decide
theorem perm_facts {xs : List Int} (h : permB xs = true) : ∃ ts ds, plWord xs 16777215 = (16777215, true) ∧ plTurned xs = (ts, true) ∧ plTimes xs ts = (ds, true) ∧ plFixed ds = (16777215, true) := by
  obtain ⟨hP, _⟩ := permB_perm h
  refine ⟨_, intP idN, ?_, plTurned_yes h, ?_, ?_⟩
  · rw [plWord_yes h ⟨by omega, by omega⟩, show (16777215 : Int).toNat = 16777215 from rfl, movN_all hP]; rfl
  · rw [plTimes_yes h (permB_of (turnN_perm hP)), natP_intP, then_turn hP]
  · rw [plFixed_yes (permB_of idN_perm), natP_intP, fix_id]; rfl
theorem movI_rng {xs : List Int} (h : permB xs = true) (v : Nat) : IsW ((movN (natP xs) v : Nat) : Int) := by
  have := movN_lt (permB_perm h).1 v
  exact ⟨by omega, by omega⟩
theorem times_facts {xs ys : List Int} (h : permB xs = true) (k : permB ys = true) : ∃ ts y z, plTimes xs ys = (ts, true) ∧ plWord ts 4321 = (z, true) ∧ plWord xs 4321 = (y, true) ∧ plWord ys y = (z, true) ∧ (keepsB xs = true → keepsB ys = true → keepsB ts = true) := by
  obtain ⟨hP, _⟩ := permB_perm h
  obtain ⟨hQ, _⟩ := permB_perm k
  have ht := permB_of (thenN_perm hP hQ)
  refine ⟨_, ((movN (natP xs) 4321 : Nat) : Int), _, plTimes_yes h k, plWord_yes ht ⟨by omega, by omega⟩, plWord_yes h ⟨by omega, by omega⟩, ?_, ?_⟩
  · rw [plWord_yes k (movI_rng h _), natP_intP, Int.toNat_natCast, movN_movN hP _ hQ.1]
    rfl
  · intro h1 k1
    rw [keepsB_iff ht, natP_intP]
    exact KeepsN.then_ hP hQ ((keepsB_iff h).1 h1) ((keepsB_iff k).1 k1)
theorem word_facts {xs : List Int} {n : Int} (h : permB xs = true) (hn : IsW n) : ∃ ts m, plWord xs n = (m, true) ∧ plTurned xs = (ts, true) ∧ plWord ts m = (n, true) ∧ IsW m ∧ wt m = wt n ∧ (keepsB xs = true → cIn m = cIn n) := by
  obtain ⟨hP, _⟩ := permB_perm h
  obtain ⟨n0, n1⟩ := hn
  obtain ⟨R, rfl⟩ := Int.eq_ofNat_of_zero_le n0
  have hR : R < 16777216 := by omega
  have hM := movN_lt hP R
  have hb := mov_turn hP R hR
  refine ⟨_, _, plWord_yes h ⟨n0, n1⟩, plTurned_yes h, ?_, movI_rng h _, ?_, ?_⟩
  · rw [Int.toNat_natCast, plWord_yes (permB_of (turnN_perm hP)) (movI_rng h _), natP_intP, Int.toNat_natCast, hb]
  · rw [Int.toNat_natCast, wt_pop, wt_pop, pop_mov hP]
  · intro hk
    have hK := (keepsB_iff h).1 hk
    rw [Int.toNat_natCast]
    have e : ∀ v : Nat, v < 16777216 → cIn (v : Int) = (syn v == 0) := fun v hv => by
      have hw : wordB (v : Int) = true := (wordB_iff _).2 ⟨by omega, by omega⟩
      rw [← codeInB_syn v hv]
      simp [cIn, hw]
    rw [e _ hM, e R hR, Bool.eq_iff_iff, beq_iff_eq, beq_iff_eq]
    constructor
    · intro hs
      have := (KeepsN.turn hP hK).word _ hM hs
      rwa [hb] at this
    · intro hs
      exact hK.word R hR hs
set_option maxHeartbeats 4000000 in
theorem walk_FnPerm (a0 : Option Addr) (len0 cap0 : Nat) (z0 : List Int) (w : World) (w0 : IsRow .u8 w a0 len0 cap0 z0) (hT : TabB w) :
    Calls Tryd.prog 3 #[.slice a0 len0 cap0] w fun e w' => e = .returned (.bool true) ∧ Below w.heap.size w w' := by
  obtain ⟨bs, rfl, hr, hc, hm, hv⟩ := w0.bytes
  have hm' := hm
  unfold maxLen at hm'
  by_cases hbig : 1048576 < bs.length
  · go_enter Tryd.func3, Tryd.ntmps3
    go_wp2_with fail
    go_ret
    exact ⟨rfl, Below.refl _ _⟩
  have hbig' : bs.length ≤ 1048576 := by omega
  clear hbig
  go_enter Tryd.func3, Tryd.ntmps3
  go_wp2_with fail
  refine (DrawPermValid_calls _ _ bs _ hr hc hm hv).mono ?_
  rintro e w1 ⟨v, xs, rfl, o1, hl, b1⟩
  obtain ⟨Aa, ca, rfl⟩ := o1.slice
  have B0 := Lib.hid (b1)
  have Oa0 := Lib.hid (o1)
  rcases hb : permB xs with _ | _
  · have H := Lib.hid hb
    clear hb
    go_wp2_with fail
    refine (iPermValid_calls Aa ca xs _ (Oa0.out).rds (Oa0.out).len_le).mono ?_
    rintro e w1_ ⟨he, b1_⟩
    rw [H.out] at he
    subst he
    have B1 := Lib.hid ((B0.out).trans (b1_.mono (B0.out).size))
    have Oa1 := Lib.hid ((Oa0.out).below b1_)
    go_wp2_with fail
    refine (sPermValid_b Aa ca xs _ (Oa1.out).rds (Oa1.out).len_le).mono ?_
    rintro e w2_ ⟨he, b2_⟩
    rw [H.out] at he
    subst he
    have B2 := Lib.hid ((B1.out).trans (b2_.mono (B1.out).size))
    have Oa2 := Lib.hid ((Oa1.out).below b2_)
    go_wp2_with fail
    go_ret
    first | exact ⟨rfl, B2.out⟩ | exact ⟨rfl, by have hB := B2.out; simp only [World.drewN_drewN] at hB; exact hB⟩
  · obtain ⟨ts, ds, f1, f2, f3, f4⟩ := perm_facts hb
    have F1 := Lib.hid f1
    have F2 := Lib.hid f2
    have F3 := Lib.hid f3
    have F4 := Lib.hid f4
    have H := Lib.hid hb
    clear hb f1 f2 f3 f4
    go_wp2_with fail
    refine (iPermValid_calls Aa ca xs _ (Oa0.out).rds (Oa0.out).len_le).mono ?_
    rintro e w1_ ⟨he, b1_⟩
    rw [H.out] at he
    subst he
    have B1 := Lib.hid ((B0.out).trans (b1_.mono (B0.out).size))
    have Oa1 := Lib.hid ((Oa0.out).below b1_)
    go_wp2_with fail
    refine (sPermValid_b Aa ca xs _ (Oa1.out).rds (Oa1.out).len_le).mono ?_
    rintro e w2_ ⟨he, b2_⟩
    rw [H.out] at he
    subst he
    have B2 := Lib.hid ((B1.out).trans (b2_.mono (B1.out).size))
    have Oa2 := Lib.hid ((Oa1.out).below b2_)
    go_wp2_with fail
    refine (iPermWord_calls Aa ca xs 16777215 _ (Oa2.out).rds (Oa2.out).len_le (hT.below (B2.out) hT.lt)).mono ?_
    rintro e w3_ ⟨he, b3_⟩
    rw [F1.out] at he
    dsimp only at he
    subst he
    have B3 := Lib.hid ((B2.out).trans (b3_.mono (B2.out).size))
    have Oa3 := Lib.hid ((Oa2.out).below b3_)
    go_wp2_with fail
    refine (iPermTurned_calls Aa ca xs _ (Oa3.out).rds (Oa3.out).len_le).mono ?_
    rintro e w4_ ⟨v4_, he, o4_, b4_⟩
    rw [F2.out] at he o4_
    dsimp only at he o4_
    subst he
    obtain ⟨Ax, cx, rfl⟩ := o4_.slice
    have B4 := Lib.hid ((B3.out).trans (b4_.mono (B3.out).size))
    have Oa4 := Lib.hid ((Oa3.out).below b4_)
    have Ox4 := Lib.hid (o4_.weak (B3.out).size)
    go_wp2_with fail
    refine (iPermTimes_calls Aa Ax ca cx xs ts _ (Oa4.out).rds (Oa4.out).len_le (Ox4.out).rds (Ox4.out).len_le).mono ?_
    rintro e w5_ ⟨v5_, he, o5_, b5_⟩
    rw [F3.out] at he o5_
    dsimp only at he o5_
    subst he
    obtain ⟨Ay, cy, rfl⟩ := o5_.slice
    have B5 := Lib.hid ((B4.out).trans (b5_.mono (B4.out).size))
    have Oa5 := Lib.hid ((Oa4.out).below b5_)
    have Ox5 := Lib.hid ((Ox4.out).below b5_)
    have Oy5 := Lib.hid (o5_.weak (B4.out).size)
    go_wp2_with fail
    refine (iPermFixed_calls Ay cy ds _ (Oy5.out).rds (Oy5.out).len_le).mono ?_
    rintro e w6_ ⟨he, b6_⟩
    rw [F4.out] at he
    dsimp only at he
    subst he
    have B6 := Lib.hid ((B5.out).trans (b6_.mono (B5.out).size))
    have Oa6 := Lib.hid ((Oa5.out).below b6_)
    have Ox6 := Lib.hid ((Ox5.out).below b6_)
    have Oy6 := Lib.hid ((Oy5.out).below b6_)
    go_wp2_with fail
    go_ret
    first | exact ⟨rfl, B6.out⟩ | exact ⟨rfl, by have hB := B6.out; simp only [World.drewN_drewN] at hB; exact hB⟩
set_option maxHeartbeats 4000000 in
theorem walk_FnTimes (a0 : Option Addr) (len0 cap0 : Nat) (z0 : List Int) (w : World) (w0 : IsRow .u8 w a0 len0 cap0 z0) (hT : Tab3 w) :
    Calls Tryd.prog 4 #[.slice a0 len0 cap0] w fun e w' => e = .returned (.bool true) ∧ Below w.heap.size w w' := by
  obtain ⟨bs, rfl, hr, hc, hm, hv⟩ := w0.bytes
  have hm' := hm
  unfold maxLen at hm'
  by_cases hbig : 1048576 < bs.length
  · go_enter Tryd.func4, Tryd.ntmps4
    go_wp2_with fail
    go_ret
    exact ⟨rfl, Below.refl _ _⟩
  have hbig' : bs.length ≤ 1048576 := by omega
  clear hbig
  go_enter Tryd.func4, Tryd.ntmps4
  go_wp2_with fail
  refine (DrawPermTimes_calls _ _ bs _ hr hc hm hv).mono ?_
  rintro e w1 ⟨v, xs, v2, ys, rfl, o1, o2, hl, hl2, b1⟩
  obtain ⟨Aa, ca, rfl⟩ := o1.slice
  obtain ⟨Ab, cb, rfl⟩ := o2.slice
  have B0 := Lib.hid (b1)
  have Oa0 := Lib.hid (o1)
  have Ob0 := Lib.hid (o2)
  rcases hb : (permB xs && permB ys) with _ | _
  · have H := Lib.hid (show plTimes xs ys = ([], false) by simp [plTimes, hb])
    clear hb
    go_wp2_with fail
    refine (iPermTimes_calls Aa Ab ca cb xs ys _ (Oa0.out).rds (Oa0.out).len_le (Ob0.out).rds (Ob0.out).len_le).mono ?_
    rintro e w1_ ⟨v1_, he, o1_, b1_⟩
    rw [H.out] at he o1_
    dsimp only at he o1_
    subst he
    obtain ⟨Ax, cx, rfl⟩ := o1_.slice
    have B1 := Lib.hid ((B0.out).trans (b1_.mono (B0.out).size))
    have Oa1 := Lib.hid ((Oa0.out).below b1_)
    have Ob1 := Lib.hid ((Ob0.out).below b1_)
    have Ox1 := Lib.hid (o1_.weak (B0.out).size)
    go_wp2_with fail
    refine (sPermTimes_calls Aa Ab ca cb xs ys _ (Oa1.out).rds (Oa1.out).len_le (Ob1.out).rds (Ob1.out).len_le).mono ?_
    rintro e w2_ ⟨v2_, he, o2_, b2_⟩
    rw [H.out] at he o2_
    dsimp only at he o2_
    subst he
    obtain ⟨Ay, cy, rfl⟩ := o2_.slice
    have B2 := Lib.hid ((B1.out).trans (b2_.mono (B1.out).size))
    have Oa2 := Lib.hid ((Oa1.out).below b2_)
    have Ob2 := Lib.hid ((Ob1.out).below b2_)
    have Ox2 := Lib.hid ((Ox1.out).below b2_)
    have Oy2 := Lib.hid (o2_.weak (B1.out).size)
    go_wp2_with fail
    refine (sameInts_calls _ _ _ _ [] [] _ (Ox2.out).rds (Oy2.out).rds (Ox2.out).len_le (Oy2.out).len_le).mono ?_
    rintro e w' ⟨he, k3_, rfl⟩
    rw [eqL_refl] at he
    subst he
    have B3 := Lib.hid (below_drewN (B2.out) k3_)
    have Oa3 := Lib.hid ((Oa2.out).drewN k3_)
    have Ob3 := Lib.hid ((Ob2.out).drewN k3_)
    have Ox3 := Lib.hid ((Ox2.out).drewN k3_)
    have Oy3 := Lib.hid ((Oy2.out).drewN k3_)
    go_wp2_with fail
    refine (sameInts_calls _ _ _ _ [] [] _ (Ox3.out).rds (Oy3.out).rds (Ox3.out).len_le (Oy3.out).len_le).mono ?_
    rintro e w' ⟨he, k4_, rfl⟩
    rw [eqL_refl] at he
    subst he
    have B4 := Lib.hid (below_drewN (B3.out) k4_)
    have Oa4 := Lib.hid ((Oa3.out).drewN k4_)
    have Ob4 := Lib.hid ((Ob3.out).drewN k4_)
    have Ox4 := Lib.hid ((Ox3.out).drewN k4_)
    have Oy4 := Lib.hid ((Oy3.out).drewN k4_)
    go_wp2_with fail
    go_ret
    first | exact ⟨rfl, B4.out⟩ | exact ⟨rfl, by have hB := B4.out; simp only [World.drewN_drewN] at hB; exact hB⟩
  · rw [Bool.and_eq_true] at hb
    obtain ⟨ts, y, z, f1, f2, f3, f4, f5⟩ := times_facts hb.1 hb.2
    have F1 := Lib.hid f1
    have F2 := Lib.hid f2
    have F3 := Lib.hid f3
    have F4 := Lib.hid f4
    have F5 := Lib.hid f5
    clear hb f1 f2 f3 f4 f5
    go_wp2_with fail
    refine (iPermTimes_calls Aa Ab ca cb xs ys _ (Oa0.out).rds (Oa0.out).len_le (Ob0.out).rds (Ob0.out).len_le).mono ?_
    rintro e w1_ ⟨v1_, he, o1_, b1_⟩
    rw [F1.out] at he o1_
    dsimp only at he o1_
    subst he
    obtain ⟨Ax, cx, rfl⟩ := o1_.slice
    have B1 := Lib.hid ((B0.out).trans (b1_.mono (B0.out).size))
    have Oa1 := Lib.hid ((Oa0.out).below b1_)
    have Ob1 := Lib.hid ((Ob0.out).below b1_)
    have Ox1 := Lib.hid (o1_.weak (B0.out).size)
    go_wp2_with fail
    refine (sPermTimes_calls Aa Ab ca cb xs ys _ (Oa1.out).rds (Oa1.out).len_le (Ob1.out).rds (Ob1.out).len_le).mono ?_
    rintro e w2_ ⟨v2_, he, o2_, b2_⟩
    rw [F1.out] at he o2_
    dsimp only at he o2_
    subst he
    obtain ⟨Ay, cy, rfl⟩ := o2_.slice
    have B2 := Lib.hid ((B1.out).trans (b2_.mono (B1.out).size))
    have Oa2 := Lib.hid ((Oa1.out).below b2_)
    have Ob2 := Lib.hid ((Ob1.out).below b2_)
    have Ox2 := Lib.hid ((Ox1.out).below b2_)
    have Oy2 := Lib.hid (o2_.weak (B1.out).size)
    go_wp2_with fail
    refine (sameInts_calls _ _ _ _ ts ts _ (Ox2.out).rds (Oy2.out).rds (Ox2.out).len_le (Oy2.out).len_le).mono ?_
    rintro e w' ⟨he, k3_, rfl⟩
    rw [eqL_refl] at he
    subst he
    have B3 := Lib.hid (below_drewN (B2.out) k3_)
    have Oa3 := Lib.hid ((Oa2.out).drewN k3_)
    have Ob3 := Lib.hid ((Ob2.out).drewN k3_)
    have Ox3 := Lib.hid ((Ox2.out).drewN k3_)
    have Oy3 := Lib.hid ((Oy2.out).drewN k3_)
    go_wp2_with fail
    refine (iPermWord_calls Ax cx ts 4321 _ (Ox3.out).rds (Ox3.out).len_le (hT.below (B3.out) hT.lt).1).mono ?_
    rintro e w4_ ⟨he, b4_⟩
    rw [F2.out] at he
    dsimp only at he
    subst he
    have B4 := Lib.hid ((B3.out).trans (b4_.mono (B3.out).size))
    have Oa4 := Lib.hid ((Oa3.out).below b4_)
    have Ob4 := Lib.hid ((Ob3.out).below b4_)
    have Ox4 := Lib.hid ((Ox3.out).below b4_)
    have Oy4 := Lib.hid ((Oy3.out).below b4_)
    go_wp2_with fail
    refine (iPermWord_calls Aa ca xs 4321 _ (Oa4.out).rds (Oa4.out).len_le (hT.below (B4.out) hT.lt).1).mono ?_
    rintro e w5_ ⟨he, b5_⟩
    rw [F3.out] at he
    dsimp only at he
    subst he
    have B5 := Lib.hid ((B4.out).trans (b5_.mono (B4.out).size))
    have Oa5 := Lib.hid ((Oa4.out).below b5_)
    have Ob5 := Lib.hid ((Ob4.out).below b5_)
    have Ox5 := Lib.hid ((Ox4.out).below b5_)
    have Oy5 := Lib.hid ((Oy4.out).below b5_)
    go_wp2_with fail
    refine (iPermWord_calls Ab cb ys y _ (Ob5.out).rds (Ob5.out).len_le (hT.below (B5.out) hT.lt).1).mono ?_
    rintro e w6_ ⟨he, b6_⟩
    rw [F4.out] at he
    dsimp only at he
    subst he
    have B6 := Lib.hid ((B5.out).trans (b6_.mono (B5.out).size))
    have Oa6 := Lib.hid ((Oa5.out).below b6_)
    have Ob6 := Lib.hid ((Ob5.out).below b6_)
    have Ox6 := Lib.hid ((Ox5.out).below b6_)
    have Oy6 := Lib.hid ((Oy5.out).below b6_)
    rcases hk1 : keepsB xs with _ | _
    · have K1 := Lib.hid hk1
      clear hk1
      go_wp2_with fail
      refine (iPermKeeps_calls Aa ca xs _ (Oa6.out).rds (Oa6.out).len_le (hT.below (B6.out) hT.lt)).mono ?_
      rintro e w7_ ⟨he, b7_⟩
      rw [K1.out] at he
      subst he
      have B7 := Lib.hid ((B6.out).trans (b7_.mono (B6.out).size))
      have Oa7 := Lib.hid ((Oa6.out).below b7_)
      have Ob7 := Lib.hid ((Ob6.out).below b7_)
      have Ox7 := Lib.hid ((Ox6.out).below b7_)
      have Oy7 := Lib.hid ((Oy6.out).below b7_)
      go_wp2_with fail
      go_ret
      first | exact ⟨rfl, B7.out⟩ | exact ⟨rfl, by have hB := B7.out; simp only [World.drewN_drewN] at hB; exact hB⟩
    · have K1 := Lib.hid hk1
      rcases hk2 : keepsB ys with _ | _
      · have K2 := Lib.hid hk2
        clear hk1 hk2
        go_wp2_with fail
        refine (iPermKeeps_calls Aa ca xs _ (Oa6.out).rds (Oa6.out).len_le (hT.below (B6.out) hT.lt)).mono ?_
        rintro e w7_ ⟨he, b7_⟩
        rw [K1.out] at he
        subst he
        have B7 := Lib.hid ((B6.out).trans (b7_.mono (B6.out).size))
        have Oa7 := Lib.hid ((Oa6.out).below b7_)
        have Ob7 := Lib.hid ((Ob6.out).below b7_)
        have Ox7 := Lib.hid ((Ox6.out).below b7_)
        have Oy7 := Lib.hid ((Oy6.out).below b7_)
        go_wp2_with fail
        refine (iPermKeeps_calls Ab cb ys _ (Ob7.out).rds (Ob7.out).len_le (hT.below (B7.out) hT.lt)).mono ?_
        rintro e w8_ ⟨he, b8_⟩
        rw [K2.out] at he
        subst he
        have B8 := Lib.hid ((B7.out).trans (b8_.mono (B7.out).size))
        have Oa8 := Lib.hid ((Oa7.out).below b8_)
        have Ob8 := Lib.hid ((Ob7.out).below b8_)
        have Ox8 := Lib.hid ((Ox7.out).below b8_)
        have Oy8 := Lib.hid ((Oy7.out).below b8_)
        go_wp2_with fail
        go_ret
        first | exact ⟨rfl, B8.out⟩ | exact ⟨rfl, by have hB := B8.out; simp only [World.drewN_drewN] at hB; exact hB⟩
      · have K2 := Lib.hid hk2
        have K3 := Lib.hid (F5.out hk1 hk2)
        clear hk1 hk2
        go_wp2_with fail
        refine (iPermKeeps_calls Aa ca xs _ (Oa6.out).rds (Oa6.out).len_le (hT.below (B6.out) hT.lt)).mono ?_
        rintro e w7_ ⟨he, b7_⟩
        rw [K1.out] at he
        subst he
        have B7 := Lib.hid ((B6.out).trans (b7_.mono (B6.out).size))
        have Oa7 := Lib.hid ((Oa6.out).below b7_)
        have Ob7 := Lib.hid ((Ob6.out).below b7_)
        have Ox7 := Lib.hid ((Ox6.out).below b7_)
        have Oy7 := Lib.hid ((Oy6.out).below b7_)
        go_wp2_with fail
        refine (iPermKeeps_calls Ab cb ys _ (Ob7.out).rds (Ob7.out).len_le (hT.below (B7.out) hT.lt)).mono ?_
        rintro e w8_ ⟨he, b8_⟩
        rw [K2.out] at he
        subst he
        have B8 := Lib.hid ((B7.out).trans (b8_.mono (B7.out).size))
        have Oa8 := Lib.hid ((Oa7.out).below b8_)
        have Ob8 := Lib.hid ((Ob7.out).below b8_)
        have Ox8 := Lib.hid ((Ox7.out).below b8_)
        have Oy8 := Lib.hid ((Oy7.out).below b8_)
        go_wp2_with fail
        refine (iPermKeeps_calls Ax cx ts _ (Ox8.out).rds (Ox8.out).len_le (hT.below (B8.out) hT.lt)).mono ?_
        rintro e w9_ ⟨he, b9_⟩
        rw [K3.out] at he
        subst he
        have B9 := Lib.hid ((B8.out).trans (b9_.mono (B8.out).size))
        have Oa9 := Lib.hid ((Oa8.out).below b9_)
        have Ob9 := Lib.hid ((Ob8.out).below b9_)
        have Ox9 := Lib.hid ((Ox8.out).below b9_)
        have Oy9 := Lib.hid ((Oy8.out).below b9_)
        go_wp2_with fail
        go_ret
        first | exact ⟨rfl, B9.out⟩ | exact ⟨rfl, by have hB := B9.out; simp only [World.drewN_drewN] at hB; exact hB⟩
set_option maxHeartbeats 4000000 in
theorem walk_FnPermWord (a0 : Option Addr) (len0 cap0 : Nat) (z0 : List Int) (w : World) (w0 : IsRow .u8 w a0 len0 cap0 z0) (hT : Tab3 w) :
    Calls Tryd.prog 6 #[.slice a0 len0 cap0] w fun e w' => e = .returned (.bool true) ∧ Below w.heap.size w w' := by
  obtain ⟨bs, rfl, hr, hc, hm, hv⟩ := w0.bytes
  have hm' := hm
  unfold maxLen at hm'
  by_cases hbig : 1048576 < bs.length
  · go_enter Tryd.func6, Tryd.ntmps6
    go_wp2_with fail
    go_ret
    exact ⟨rfl, Below.refl _ _⟩
  have hbig' : bs.length ≤ 1048576 := by omega
  clear hbig
  go_enter Tryd.func6, Tryd.ntmps6
  go_wp2_with fail
  refine (DrawPermWord_calls _ _ bs _ hr hc hm hv).mono ?_
  rintro e w1 ⟨v, xs, n, rfl, o1, hl, n0, n1, b1⟩
  obtain ⟨Aa, ca, rfl⟩ := o1.slice
  have B0 := Lib.hid (b1)
  have Oa0 := Lib.hid (o1)
  rcases hb : (permB xs && wdB n) with _ | _
  · have H := Lib.hid (show plWord xs n = (0, false) by simp [plWord, hb])
    clear hb
    go_wp2_with fail
    refine (iPermWord_calls Aa ca xs n _ (Oa0.out).rds (Oa0.out).len_le (hT.below (B0.out) hT.lt).1).mono ?_
    rintro e w1_ ⟨he, b1_⟩
    rw [H.out] at he
    dsimp only at he
    subst he
    have B1 := Lib.hid ((B0.out).trans (b1_.mono (B0.out).size))
    have Oa1 := Lib.hid ((Oa0.out).below b1_)
    go_wp2_with fail
    refine (sPermWord_calls Aa ca xs n _ (Oa1.out).rds (Oa1.out).len_le).mono ?_
    rintro e w2_ ⟨he, b2_⟩
    rw [H.out] at he
    dsimp only at he
    subst he
    have B2 := Lib.hid ((B1.out).trans (b2_.mono (B1.out).size))
    have Oa2 := Lib.hid ((Oa1.out).below b2_)
    go_wp2_with fail
    go_ret
    first | exact ⟨rfl, B2.out⟩ | exact ⟨rfl, by have hB := B2.out; simp only [World.drewN_drewN] at hB; exact hB⟩
  · rw [Bool.and_eq_true] at hb
    have hn : IsW n := by simpa [wdB, IsW] using hb.2
    obtain ⟨ts, m, f1, f2, f3, hm, f4, f5⟩ := word_facts hb.1 hn
    have F1 := Lib.hid f1
    have F2 := Lib.hid f2
    have F3 := Lib.hid f3
    have F4 := Lib.hid f4
    have F5 := Lib.hid f5
    clear hb f1 f2 f3 f4 f5
    go_wp2_with fail
    refine (iPermWord_calls Aa ca xs n _ (Oa0.out).rds (Oa0.out).len_le (hT.below (B0.out) hT.lt).1).mono ?_
    rintro e w1_ ⟨he, b1_⟩
    rw [F1.out] at he
    dsimp only at he
    subst he
    have B1 := Lib.hid ((B0.out).trans (b1_.mono (B0.out).size))
    have Oa1 := Lib.hid ((Oa0.out).below b1_)
    go_wp2_with fail
    refine (sPermWord_calls Aa ca xs n _ (Oa1.out).rds (Oa1.out).len_le).mono ?_
    rintro e w2_ ⟨he, b2_⟩
    rw [F1.out] at he
    dsimp only at he
    subst he
    have B2 := Lib.hid ((B1.out).trans (b2_.mono (B1.out).size))
    have Oa2 := Lib.hid ((Oa1.out).below b2_)
    go_wp2_with fail
    refine (iPermTurned_calls Aa ca xs _ (Oa2.out).rds (Oa2.out).len_le).mono ?_
    rintro e w3_ ⟨v3_, he, o3_, b3_⟩
    rw [F2.out] at he o3_
    dsimp only at he o3_
    subst he
    obtain ⟨Ax, cx, rfl⟩ := o3_.slice
    have B3 := Lib.hid ((B2.out).trans (b3_.mono (B2.out).size))
    have Oa3 := Lib.hid ((Oa2.out).below b3_)
    have Ox3 := Lib.hid (o3_.weak (B2.out).size)
    go_wp2_with fail
    refine (iPermWord_calls Ax cx ts m _ (Ox3.out).rds (Ox3.out).len_le (hT.below (B3.out) hT.lt).1).mono ?_
    rintro e w4_ ⟨he, b4_⟩
    rw [F3.out] at he
    dsimp only at he
    subst he
    have B4 := Lib.hid ((B3.out).trans (b4_.mono (B3.out).size))
    have Oa4 := Lib.hid ((Oa3.out).below b4_)
    have Ox4 := Lib.hid ((Ox3.out).below b4_)
    obtain ⟨W, hW⟩ : ∃ W, wt n = W := ⟨_, rfl⟩
    rw [hW] at F4
    have HW := Lib.hid hW
    clear hW
    go_wp2_with fail
    refine (iWordWeight_ok m _ hm).mono ?_
    rintro e w' ⟨he, k5_, rfl⟩
    rw [F4.out] at he
    subst he
    have B5 := Lib.hid (below_drewN (B4.out) k5_)
    have Oa5 := Lib.hid ((Oa4.out).drewN k5_)
    have Ox5 := Lib.hid ((Ox4.out).drewN k5_)
    go_wp2_with fail
    refine (iWordWeight_ok n _ hn).mono ?_
    rintro e w' ⟨he, k6_, rfl⟩
    rw [HW.out] at he
    subst he
    have B6 := Lib.hid (below_drewN (B5.out) k6_)
    have Oa6 := Lib.hid ((Oa5.out).drewN k6_)
    have Ox6 := Lib.hid ((Ox5.out).drewN k6_)
    have hZ := B6.out
    simp only [World.drewN_drewN] at hZ
    have B7 := Lib.hid hZ
    clear hZ
    have hZ := Oa6.out
    simp only [World.drewN_drewN] at hZ
    have Oa7 := Lib.hid hZ
    clear hZ
    have hZ := Ox6.out
    simp only [World.drewN_drewN] at hZ
    have Ox7 := Lib.hid hZ
    clear hZ
    rcases hk1 : keepsB xs with _ | _
    · have K1 := Lib.hid hk1
      clear hk1
      go_wp2_with fail
      refine (iPermKeeps_calls Aa ca xs _ (Oa7.out).rds (Oa7.out).len_le (hT.below (B7.out) hT.lt)).mono ?_
      rintro e w7_ ⟨he, b7_⟩
      rw [K1.out] at he
      subst he
      have B8 := Lib.hid ((B7.out).trans (b7_.mono (B7.out).size))
      have Oa8 := Lib.hid ((Oa7.out).below b7_)
      have Ox8 := Lib.hid ((Ox7.out).below b7_)
      go_wp2_with fail
      go_ret
      first | exact ⟨rfl, B8.out⟩ | exact ⟨rfl, by have hB := B8.out; simp only [World.drewN_drewN] at hB; exact hB⟩
    · have K1 := Lib.hid hk1
      have K2 := F5.out hk1
      clear hk1
      obtain ⟨cn, hcn⟩ : ∃ cn, cIn n = cn := ⟨_, rfl⟩
      rw [hcn] at K2
      have KN := Lib.hid hcn
      clear hcn
      rcases cn with _ | _
      · have K3 := Lib.hid K2
        clear K2
        go_wp2_with fail
        refine (iPermKeeps_calls Aa ca xs _ (Oa7.out).rds (Oa7.out).len_le (hT.below (B7.out) hT.lt)).mono ?_
        rintro e w7_ ⟨he, b7_⟩
        rw [K1.out] at he
        subst he
        have B8 := Lib.hid ((B7.out).trans (b7_.mono (B7.out).size))
        have Oa8 := Lib.hid ((Oa7.out).below b7_)
        have Ox8 := Lib.hid ((Ox7.out).below b7_)
        go_wp2_with fail
        refine (iCodeIn_calls m _ (hT.below (B8.out) hT.lt)).mono ?_
        rintro e w8_ ⟨he, b8_⟩
        rw [K3.out] at he
        subst he
        have B9 := Lib.hid ((B8.out).trans (b8_.mono (B8.out).size))
        have Oa9 := Lib.hid ((Oa8.out).below b8_)
        have Ox9 := Lib.hid ((Ox8.out).below b8_)
        go_wp2_with fail
        refine (iCodeIn_calls n _ (hT.below (B9.out) hT.lt)).mono ?_
        rintro e w9_ ⟨he, b9_⟩
        rw [KN.out] at he
        subst he
        have B10 := Lib.hid ((B9.out).trans (b9_.mono (B9.out).size))
        have Oa10 := Lib.hid ((Oa9.out).below b9_)
        have Ox10 := Lib.hid ((Ox9.out).below b9_)
        go_wp2_with fail
        go_ret
        first | exact ⟨rfl, B10.out⟩ | exact ⟨rfl, by have hB := B10.out; simp only [World.drewN_drewN] at hB; exact hB⟩
      · have K3 := Lib.hid K2
        clear K2
        go_wp2_with fail
        refine (iPermKeeps_calls Aa ca xs _ (Oa7.out).rds (Oa7.out).len_le (hT.below (B7.out) hT.lt)).mono ?_
        rintro e w7_ ⟨he, b7_⟩
        rw [K1.out] at he
        subst he
        have B8 := Lib.hid ((B7.out).trans (b7_.mono (B7.out).size))
        have Oa8 := Lib.hid ((Oa7.out).below b7_)
        have Ox8 := Lib.hid ((Ox7.out).below b7_)
        go_wp2_with fail
        refine (iCodeIn_calls m _ (hT.below (B8.out) hT.lt)).mono ?_
        rintro e w8_ ⟨he, b8_⟩
        rw [K3.out] at he
        subst he
        have B9 := Lib.hid ((B8.out).trans (b8_.mono (B8.out).size))
        have Oa9 := Lib.hid ((Oa8.out).below b8_)
        have Ox9 := Lib.hid ((Ox8.out).below b8_)
        go_wp2_with fail
        refine (iCodeIn_calls n _ (hT.below (B9.out) hT.lt)).mono ?_
        rintro e w9_ ⟨he, b9_⟩
        rw [KN.out] at he
        subst he
        have B10 := Lib.hid ((B9.out).trans (b9_.mono (B9.out).size))
        have Oa10 := Lib.hid ((Oa9.out).below b9_)
        have Ox10 := Lib.hid ((Ox9.out).below b9_)
        go_wp2_with fail
        go_ret
        first | exact ⟨rfl, B10.out⟩ | exact ⟨rfl, by have hB := B10.out; simp only [World.drewN_drewN] at hB; exact hB⟩
end Go.Proofs.YtakefnfhjiodnaaDoor
