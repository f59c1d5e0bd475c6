import Derived.Test.YtmeejnkpaiinaacGreatDoorM29
import Derived.Test.YtmeejnkpaiinaacGreatDoorQ3
import Derived.Test.YtmeejnkpaiinaacGreatDoorQ1
import Derived.Test.YtmeejnkpaiinaacGreatDoorP1
import Derived.Test.YtmeejnkpaiinaacGreatDoorC97
/- The line through two points, what the promise of the lines through points asks. -/
namespace Go.Proofs.YtmeejnkpaiinaacGreatDoor
open Go.RowKit
set_option linter.unusedVariables false
attribute [local irreducible] octS cN octF syn

theorem bit_in (l t : Nat) (h : l.testBit t = true) : (l : Int) / 2 ^ t % 2 = 1 := by
  have h2 : l / 2 ^ t % 2 = 1 := by rw [Nat.testBit_eq_decide_div_mod_eq, decide_eq_true_eq] at h; exact h
  rw [show ((l : Int) / 2 ^ t % 2) = ((l / 2 ^ t % 2 : Nat) : Int) by simp, h2]
  rfl
theorem plLine_cases (b p q : Int) : plLine b p q = (0, false) ∨ ∃ (B P Q l : Nat), b = (B : Int) ∧ IsBase B ∧ p = (P : Int) ∧ q = (Q : Int) ∧ P < 24 ∧ Q < 24 ∧ plLine b p q = ((l : Int), true) ∧ plLine b q p = ((l : Int), true) ∧ plLines b = (lns b, true) ∧ (l : Int) ∈ lns b ∧ l < 16777216 ∧ l.testBit P = true ∧ l.testBit Q = true := by
  rcases hb : baseB b with _ | _
  · left; simp [plLine, hb]
  rcases h1 : ptB b p with _ | _
  · left; simp [plLine, h1]
  rcases h2 : ptB b q with _ | _
  · left; simp [plLine, h2]
  by_cases h3 : p = q
  · left; simp [plLine, h3]
  right
  obtain ⟨B, rfl, hB⟩ := baseB_nat hb
  obtain ⟨P, rfl, hp, bp⟩ := ptB_nat h1
  obtain ⟨Q, rfl, hq, bq⟩ := ptB_nat h2
  have hPQ : P ≠ Q := by omega
  obtain ⟨l, hl, l1, l2⟩ := line_ex hB hp hq hPQ bp bq
  have t1 := thruI_is hB hl hPQ l1 l2
  have t2 := thruI_is hB hl (Ne.symm hPQ) l2 l1
  refine ⟨B, P, Q, l, rfl, hB, rfl, rfl, hp, hq, ?_, ?_, ?_, (lns_mem hB _).2 ⟨l, hl, rfl⟩, (hl.facts hB).1, l1, l2⟩
  · unfold plLine
    rw [hb, h1, h2, decide_eq_true h3, t1]; rfl
  · unfold plLine
    rw [hb, h1, h2, decide_eq_true (show (Q : Int) ≠ (P : Int) from fun e => h3 e.symm), t2]; rfl
  · simp [plLines, hb]
end Go.Proofs.YtmeejnkpaiinaacGreatDoor
/- Drawing points of a plane: l92Point, DrawPlaneLine, DrawPlaneOn, l92Four. -/
namespace Go.Proofs.YtmeejnkpaiinaacGreatDoor
open Go.RowKit
set_option linter.unusedVariables false


theorem free_pt {b : Int} (h0 : 0 ≤ b) (h1 : b ≤ 16777216) (h2 : b ≠ 16777215) : ∃ f : Nat, f < 24 ∧ bitI b (f : Int) = 0 := by
  obtain ⟨n, rfl⟩ := Int.eq_ofNat_of_zero_le h0
  refine Classical.byContradiction fun h => ?_
  have hall : ∀ f, f < 24 → n.testBit f = true := fun f hf => by
    cases e : n.testBit f
    · exact absurd ⟨f, hf, by rw [bitI_nat, e]; rfl⟩ h
    · rfl
  have : n % 2 ^ 24 = 2 ^ 24 - 1 := Nat.eq_of_testBit_eq fun i => by
    rw [Nat.testBit_mod_two_pow, Nat.testBit_two_pow_sub_one]
    by_cases hi : i < 24
    · rw [hall i hi]; simp [hi]
    · simp [hi]
  omega
set_option maxHeartbeats 4000000 in
theorem l92Point_calls (g q : Nat) (b : Int) (w : World) (h : Rd w g q) (hq : q ≤ 700000) (h0 : -1 ≤ b) (h1 : b ≤ 16777216) :
    Calls Tryz.prog 52 #[.pointer (some ⟨g, 0, none⟩), .int .i64 b] w fun e w' => ∃ p : Int, e = .returned (.int .i64 p) ∧ 0 ≤ p ∧ p < 24 ∧ ∃ q' : Nat, q' ≤ q + 60 ∧ Rd w' g q' ∧ w.grownBy w' (some g) := by
  go_enter Tryz.func52, Tryz.ntmps52
  go_wp2_with fail
  refine (pick_calls g _ 24 _ h (by omega) (by omega) (by omega)).mono ?_
  rintro e w2 ⟨a, rfl, a0, a1, r2, g2⟩
  obtain ⟨a, rfl⟩ := Int.eq_ofNat_of_zero_le a0
  go_wp2_with fail
  obtain ⟨f, hf, hfree⟩ : ∃ f : Nat, f < 24 ∧ (b < 0 ∨ b = 16777215 ∨ (0 ≤ b ∧ b ≠ 16777215 ∧ bitI b (f : Int) = 0)) := by
    by_cases c0 : 0 ≤ b
    · by_cases c1 : b = 16777215
      · exact ⟨0, by omega, .inr (.inl c1)⟩
      · obtain ⟨f, h2, h3⟩ := free_pt c0 h1 c1
        exact ⟨f, h2, .inr (.inr ⟨c0, c1, h3⟩)⟩
    · exact ⟨0, by omega, .inl (by omega)⟩
  have HFREE := Lib.hid hfree
  clear hfree h
  go_loopw [5] (fun i wr => ∃ n q' : Nat, i = .int .i64 (n : Int) ∧ n < 24 ∧ q' + (f + 24 - n) % 24 ≤ q + 25 ∧ Rd wr g q' ∧ w.grownBy wr (some g)) (fun i _ => (f + 24 - (intOf i).toNat) % 24)
  case atStart => exact ⟨a, q + 1, rfl, by omega, by omega, r2, g2⟩
  case round =>
    obtain ⟨n, q', rfl, hn, hqq, hr, hg⟩ := hrel
    have hn0 : (0 : Int) ≤ (n : Int) := by omega
    have hn1 : (n : Int) < 24 := by omega
    rcases HFREE.out with hc | hc | ⟨c0, c1, c2⟩
    · have hc2 : ¬ (0 : Int) ≤ b := by omega
      go_wp2_with fail
      go_ret
      exact ⟨_, rfl, by omega, by omega, q', by omega, hr, hg⟩
    · subst hc
      go_wp2_with fail
      go_ret
      exact ⟨_, rfl, by omega, by omega, q', by omega, hr, hg⟩
    · have HL := Lib.hid (fun W => l1Bit_calls b (n : Int) W (by omega) (by omega))
      have c1b : (b != 16777215) = true := by simpa using c1
      rcases bitI_01 b (n : Int) with hbit | hbit
      · rw [hbit] at HL
        clear hbit c2
        go_wp2_with fail
        refine (HL.out _).mono ?_
        rintro e w' ⟨rfl, rfl⟩
        go_wp2_with fail
        go_ret
        exact ⟨_, rfl, by omega, by omega, q', by omega, hr, hg⟩
      · have hne : n ≠ f := fun e => by rw [e, c2] at hbit; omega
        rw [hbit] at HL
        clear hbit c2
        go_wp2_with fail
        refine (HL.out _).mono ?_
        rintro e w' ⟨rfl, rfl⟩
        go_wp2_with fail
        refine (pick_calls g _ 30 _ hr (by omega) (by omega) (by omega)).mono ?_
        rintro e w3 ⟨v, rfl, v0, v1, r3, g3⟩
        by_cases hv : v = 0
        · subst hv
          go_wp2_with fail
          go_ret
          exact ⟨_, rfl, by omega, by omega, q' + 1, by omega, r3, grown_trans hg g3⟩
        · have hv2 : 0 < v := by omega
          have hnx : ((n : Int) + 1).tmod 24 = (((n + 1) % 24 : Nat) : Int) := by
            rw [Int.tmod_eq_emod_of_nonneg (by omega)]; omega
          clear hv
          go_wp2_with fail
          go_roundw
          case rel => exact ⟨(n + 1) % 24, q' + 1, by first | rfl | (simp [hnx]; done) | go_num, by omega, by omega, r3, grown_trans hg g3⟩
          case measure => simp [intOf]; omega
end Go.Proofs.YtmeejnkpaiinaacGreatDoor
/- Drawing for the promises of lines, arcs: DrawPlaneLine, DrawPlaneOn, l92Four. -/
namespace Go.Proofs.YtmeejnkpaiinaacGreatDoor
open Go.RowKit
set_option linter.unusedVariables false
attribute [local irreducible] octS cN octF syn

theorem DrawPlaneOn_calls (A : Option Addr) (c : Nat) (bs : List Int) (w : World) (hr : Rds w w.heap.size .u8 A bs) (hc : bs.length ≤ c) (hm : c ≤ maxLen) (hv : ∀ i, 0 ≤ bs.getD i 0 ∧ bs.getD i 0 ≤ 255) :
    Calls Tryz.prog 17 #[.slice A bs.length c] w fun e w' => ∃ b x : Int, e = .returned (.tuple #[.int .i64 b, .int .i64 x]) ∧ Below w.heap.size w w' := by
  go_enter Tryz.func17, Tryz.ntmps17
  go_wp2_with fail
  refine (l6Open_calls A c bs _ hr hc hm hv).mono ?_
  rintro e w1 ⟨g, rfl, hg, r1, b1⟩
  go_wp2_with fail
  refine (l92Base_calls g 0 _ r1 (by omega)).mono ?_
  rintro e w2 ⟨b, q1, rfl, b0, b2, hq1, r2, g2⟩
  go_wp2_with fail
  refine (l92Point_calls g q1 b _ r2 (by omega) b0 b2).mono ?_
  rintro e w3 ⟨x, rfl, x0, x1, q2, hq2, r3, g3⟩
  go_wp2_with fail
  go_ret2
  exact ⟨b, x, rfl, b1.trans (grown_below (grown_trans g2 g3) hg b1.size)⟩
end Go.Proofs.YtmeejnkpaiinaacGreatDoor
/- What the promises of the further points, of the seven and of the ovals ask. No program is named here. -/
namespace Go.Proofs.YtmeejnkpaiinaacGreatDoor
set_option linter.unusedVariables false
attribute [local irreducible] octS cN octF syn

theorem arc_get {b v n : Int} (h : arcB b v n = true) : ∃ B V : Nat, b = (B : Int) ∧ v = (V : Int) ∧ IsBase B ∧ V < 16777216 ∧ (pop V : Int) = n ∧ V &&& B = 0 ∧ (∀ l, IsLine B l → pop (l &&& V) ≤ 2) := by
  unfold arcB at h
  simp only [Bool.and_eq_true, decide_eq_true_eq] at h
  obtain ⟨h1, h2, h3, h4, h5⟩ := h
  obtain ⟨B, rfl, hB⟩ := baseB_nat h1
  have h6 := (wordB_iff v).1 h2
  obtain ⟨V, rfl⟩ := Int.eq_ofNat_of_zero_le h6.1
  rw [wt_pop] at h3
  rw [andI_nat] at h4
  exact ⟨B, V, rfl, rfl, hB, by omega, h3, by omega, (thinB_iff hB).1 h5⟩
theorem pop_and_or (l W p : Nat) (hp : p < 24) (hW : W.testBit p = false) : pop (l &&& (W ||| 2 ^ p)) = pop (l &&& W) + if l.testBit p then 1 else 0 := by
  cases e : l.testBit p
  · have : l &&& (W ||| 2 ^ p) = l &&& W := Nat.eq_of_testBit_eq fun q => by
      rw [Nat.testBit_and, Nat.testBit_and, or_bit]
      by_cases h : p = q
      · subst h; rw [e]; rfl
      · simp [h]
    rw [this]; simp
  · have : l &&& (W ||| 2 ^ p) = (l &&& W) ||| 2 ^ p := Nat.eq_of_testBit_eq fun q => by
      rw [Nat.testBit_and, or_bit, or_bit, Nat.testBit_and]
      by_cases h : p = q
      · subst h; rw [e]; simp
      · simp [h]
    rw [this, pop_or _ p hp (by rw [Nat.testBit_and, hW]; simp)]; simp
theorem pop_and_one (l p : Nat) (hp : p < 24) : pop (l &&& 2 ^ p) = if l.testBit p then 1 else 0 := by
  have := pop_and_or l 0 p hp (by simp)
  rw [Nat.zero_or, Nat.and_zero, pop_zero_] at this
  omega
theorem lns_at {B : Nat} (hB : IsBase B) (i : Nat) (hi : i < 21) : ∃ l : Nat, (lns (B : Int)).getD i 0 = (l : Int) ∧ IsLine B l := by
  have : (lns (B : Int)).getD i 0 ∈ lns (B : Int) := by rw [← getD_at _ i (by rw [lns_len hB]; exact hi)]; exact List.getElem_mem _
  obtain ⟨l, h1, h2⟩ := (lns_mem hB _).1 this
  exact ⟨l, h2, h1⟩
theorem ptB_of {B q : Nat} (hq : q < 24) (h : B.testBit q = false) : ptB (B : Int) (q : Int) = true := by
  unfold ptB
  rw [bitI_nat, h]
  simp; omega
section
variable {B p0 p1 p2 p3 l01 l23 l02 l13 l03 l12 a b c : Nat}
theorem Four.apart (h : Four B p0 p1 p2 p3 l01 l23 l02 l13 l03 l12 a b c) : (a ≠ p0 ∧ a ≠ p1 ∧ a ≠ p2 ∧ a ≠ p3) ∧ (b ≠ p0 ∧ b ≠ p1 ∧ b ≠ p2 ∧ b ≠ p3) ∧ (c ≠ p0 ∧ c ≠ p1 ∧ c ≠ p2 ∧ c ≠ p3) ∧ a ≠ b ∧ a ≠ c ∧ b ≠ c := by
  obtain ⟨⟨na0, na1, na2, na3⟩, _⟩ := h.offs
  obtain ⟨⟨nb0, nb2, nb1, nb3⟩, _⟩ := h.rot.offs
  obtain ⟨⟨nc0, nc3, nc1, nc2⟩, _⟩ := h.rot2.rot.offs
  exact ⟨⟨na0, na1, na2, na3⟩, ⟨nb0, nb1, nb2, nb3⟩, ⟨nc0, nc1, nc2, nc3⟩, h.abc⟩
theorem three_bit (a b c q : Nat) : (2 ^ a ||| 2 ^ b ||| 2 ^ c).testBit q = (decide (a = q) || decide (b = q) || decide (c = q)) := by
  rw [or_bit, or_bit, bit_pow2]
theorem Four.three (h : Four B p0 p1 p2 p3 l01 l23 l02 l13 l03 l12 a b c) : 2 ^ a ||| 2 ^ b ||| 2 ^ c < 16777216 ∧ pop (2 ^ a ||| 2 ^ b ||| 2 ^ c) = 3 ∧ (2 ^ a ||| 2 ^ b ||| 2 ^ c) &&& word4 p0 p1 p2 p3 = 0 := by
  obtain ⟨⟨a0, a1, a2, a3⟩, ⟨b0, b1, b2, b3⟩, ⟨c0, c1, c2, c3⟩, ab, ac, bc⟩ := h.apart
  refine ⟨or_lt _ c (or_lt _ b (pow_lt24 _ h.a24.1) h.b24.1) h.c24.1, ?_, Nat.eq_of_testBit_eq fun q => ?_⟩
  · rw [pop_or _ c h.c24.1 (by rw [or_bit, bit_pow2]; simp [ac, bc]), pair_pop _ _ h.a24.1 h.b24.1 ab]
  · rw [Nat.testBit_and, three_bit, word4_bit, Nat.zero_testBit]
    by_cases e1 : a = q
    · subst e1; simp [Ne.symm a0, Ne.symm a1, Ne.symm a2, Ne.symm a3]
    · by_cases e2 : b = q
      · subst e2; simp [Ne.symm b0, Ne.symm b1, Ne.symm b2, Ne.symm b3]
      · by_cases e3 : c = q
        · subst e3; simp [Ne.symm c0, Ne.symm c1, Ne.symm c2, Ne.symm c3]
        · simp [e1, e2, e3]
theorem Four.pop_in (h : Four B p0 p1 p2 p3 l01 l23 l02 l13 l03 l12 a b c) (l : Nat) : pop (l &&& ((2 ^ a ||| 2 ^ b ||| 2 ^ c) ||| word4 p0 p1 p2 p3)) =
    (if l.testBit p0 then 1 else 0) + (if l.testBit p1 then 1 else 0) + (if l.testBit p2 then 1 else 0) + (if l.testBit p3 then 1 else 0) + (if l.testBit a then 1 else 0) + (if l.testBit b then 1 else 0) + (if l.testBit c then 1 else 0) := by
  obtain ⟨⟨a0, a1, a2, a3⟩, ⟨b0, b1, b2, b3⟩, ⟨c0, c1, c2, c3⟩, ab, ac, bc⟩ := h.apart
  have e : (2 ^ a ||| 2 ^ b ||| 2 ^ c) ||| word4 p0 p1 p2 p3 = ((word4 p0 p1 p2 p3 ||| 2 ^ a) ||| 2 ^ b) ||| 2 ^ c := by rw [Nat.or_comm, ← Nat.or_assoc, ← Nat.or_assoc]
  rw [e, pop_and_or _ _ c h.c24.1 (by rw [or_bit, or_bit, word4_bit]; simp [Ne.symm c0, Ne.symm c1, Ne.symm c2, Ne.symm c3, ac, bc]),
    pop_and_or _ _ b h.b24.1 (by rw [or_bit, word4_bit]; simp [Ne.symm b0, Ne.symm b1, Ne.symm b2, Ne.symm b3, ab]),
    pop_and_or _ _ a h.a24.1 (by rw [word4_bit]; simp [Ne.symm a0, Ne.symm a1, Ne.symm a2, Ne.symm a3])]
  unfold word4
  rw [pop_and_or _ _ p3 h.arc.lt.2.2.2 (by rw [or_bit, or_bit, bit_pow2]; simp [h.arc.ne.2.2.1, h.arc.ne.2.2.2.2.1, h.arc.ne.2.2.2.2.2]),
    pop_and_or _ _ p2 h.arc.lt.2.2.1 (by rw [or_bit, bit_pow2]; simp [h.arc.ne.2.1, h.arc.ne.2.2.2.1]),
    pop_and_or _ _ p1 h.arc.lt.2.1 (by rw [bit_pow2]; simp [h.arc.ne.1]), pop_and_one _ _ h.arc.lt.1]
end
/-- The further points of four: three places off the four, on one line. -/
theorem four_cases (b v : Int) : plFour b v = (0, false) ∨ ∃ (x y z M : Nat) (O : Int), plFour b v = (O, true) ∧ 0 ≤ O ∧ O ≤ 16777215 ∧ 0 ≤ v ∧ v ≤ 16777215 ∧ plI O.toNat = [(x : Int), (y : Int), (z : Int)] ∧ andI O v = 0 ∧ plLine b (x : Int) (y : Int) = ((M : Int), true) ∧ z < 24 ∧ M < 16777216 ∧ (M : Int) / 2 ^ z % 2 = 1 := by
  rcases h : arcB b v 4 with _ | _
  · left; simp [plFour, h]
  right
  have e0 : plFour b v = (fourI b v, true) := by simp [plFour, h]
  obtain ⟨B, V, rfl, rfl, hB, hV, h4, hVB, ht⟩ := arc_get h
  obtain ⟨p0, p1, p2, p3, hP, hwd, harc⟩ := arc_of hB hV hVB (by omega) ht
  obtain ⟨l01, l23, l02, l13, l03, l12, a, b, c, hF⟩ := harc.four
  have e2 := fourI_is hP hF
  obtain ⟨k1, k2, k3⟩ := hF.three
  obtain ⟨M, hM, Ma, Mb, Mc⟩ := hF.line
  rw [← hwd] at k3
  have hbit := three_bit a b c
  generalize 2 ^ a ||| 2 ^ b ||| 2 ^ c = O at *
  have hl : (pl O).length = 3 := by rw [← pop_pl]; exact k2
  have hasc := pl_asc O
  have hmem := pl_mem O
  rw [e2] at e0
  match hQ : pl O, hl with
  | [x, y, z], _ =>
    rw [hQ] at hasc hmem
    simp only [List.pairwise_cons, List.mem_cons, List.not_mem_nil, or_false, forall_eq_or_imp, forall_eq] at hasc
    have on : ∀ q, q ∈ [x, y, z] → q < 24 ∧ M.testBit q = true := fun q hq => by
      obtain ⟨h1, h2⟩ := (hmem q).1 hq
      rw [hbit q] at h2
      simp only [Bool.or_eq_true, decide_eq_true_eq] at h2
      rcases h2 with (rfl | rfl) | rfl
      · exact ⟨h1, Ma⟩
      · exact ⟨h1, Mb⟩
      · exact ⟨h1, Mc⟩
    have nx := on x (by simp)
    have ny := on y (by simp)
    have nz := on z (by simp)
    have noB : ∀ q, M.testBit q = true → B.testBit q = false := fun q hq => by
      cases e : B.testBit q
      · rfl
      · have := hM.noB hB hq; rw [e] at this; cases this
    have hxy : x ≠ y := by omega
    refine ⟨x, y, z, M, (O : Int), e0, by omega, by omega, by omega, by omega, ?_, ?_, ?_, nz.1, (hM.facts hB).1, bit_in M z nz.2⟩
    · rw [Int.toNat_natCast]; unfold plI; rw [hQ]; rfl
    · rw [andI_nat, k3]; rfl
    · unfold plLine
      rw [baseB_of hB, ptB_of nx.1 (noB x nx.2), ptB_of ny.1 (noB y ny.2), decide_eq_true (show (x : Int) ≠ (y : Int) by omega), thruI_is hB hM hxy nx.2 ny.2]
      rfl
/-- The seven of four: each line has none, one or three of them. -/
theorem sub_cases (b v : Int) : plSub b v = (0, false) ∨ ∃ (O T : Int), plSub b v = (O, true) ∧ plFour b v = (T, true) ∧ plLines b = (lns b, true) ∧ (lns b).length = 21 ∧ (0 ≤ v ∧ v ≤ 16777215) ∧ (0 ≤ T ∧ T ≤ 16777215) ∧ (0 ≤ O ∧ O ≤ 16777215) ∧ orI T v = O ∧ wt O = 7 ∧
    ∀ i, i < 21 → (0 ≤ (lns b).getD i 0 ∧ (lns b).getD i 0 ≤ 16777215) ∧ (0 ≤ andI ((lns b).getD i 0) O ∧ andI ((lns b).getD i 0) O ≤ 16777215) ∧ (wt (andI ((lns b).getD i 0) O) = 0 ∨ wt (andI ((lns b).getD i 0) O) = 1 ∨ wt (andI ((lns b).getD i 0) O) = 3) := by
  rcases h : arcB b v 4 with _ | _
  · left; simp [plSub, h]
  right
  have e0 : plFour b v = (fourI b v, true) := by simp [plFour, h]
  have e1 : plSub b v = (orI (fourI b v) v, true) := by simp [plSub, h]
  obtain ⟨B, V, rfl, rfl, hB, hV, h4, hVB, ht⟩ := arc_get h
  obtain ⟨p0, p1, p2, p3, hP, hwd, harc⟩ := arc_of hB hV hVB (by omega) ht
  obtain ⟨l01, l23, l02, l13, l03, l12, a, b, c, hF⟩ := harc.four
  have e2 := fourI_is hP hF
  obtain ⟨k1, k2, k3⟩ := hF.three
  rw [← hwd] at k3
  have hin := hF.pop_in
  have h7 := hF.seven
  rw [← hwd] at hin
  generalize 2 ^ a ||| 2 ^ b ||| 2 ^ c = O at *
  have ho : O ||| V < 16777216 := Nat.or_lt_two_pow (n := 24) k1 hV
  have hpop : pop (O ||| V) = 7 := by rw [pop_or_dis O V k1 hV k3, k2]; omega
  rw [e2] at e0 e1
  rw [orI_nat'] at e1
  refine ⟨((O ||| V : Nat) : Int), (O : Int), e1, e0, by simp [plLines, baseB_of hB], lns_len hB, ⟨by omega, by omega⟩, ⟨by omega, by omega⟩, ⟨by omega, by omega⟩, orI_nat' _ _, by rw [wt_pop, hpop]; rfl, fun i hi => ?_⟩
  obtain ⟨l, hl, hL⟩ := lns_at hB i hi
  have hl24 := (hL.facts hB).1
  have := h7 l hL
  rw [← hin l] at this
  rw [hl, andI_nat, wt_pop]
  have hle : l &&& (O ||| V) ≤ l := Nat.and_le_left
  simp only [List.mem_cons, List.not_mem_nil, or_false] at this
  exact ⟨⟨by omega, by omega⟩, ⟨by omega, by omega⟩, by omega⟩
/-- An oval: each line has none or two of it. -/
theorem oval_cases (b v : Int) : plOval b v = false ∨ (plOval b v = true ∧ plLines b = (lns b, true) ∧ (lns b).length = 21 ∧ (0 ≤ v ∧ v ≤ 16777215) ∧ wt v = 6 ∧
    ∀ i, i < 21 → (0 ≤ (lns b).getD i 0 ∧ (lns b).getD i 0 ≤ 16777215) ∧ (0 ≤ andI ((lns b).getD i 0) v ∧ andI ((lns b).getD i 0) v ≤ 16777215) ∧ (wt (andI ((lns b).getD i 0) v) = 0 ∨ wt (andI ((lns b).getD i 0) v) = 2)) := by
  rcases h : arcB b v 6 with _ | _
  · left; exact h
  right
  obtain ⟨B, V, rfl, rfl, hB, hV, h6, hVB, ht⟩ := arc_get h
  refine ⟨h, by simp [plLines, baseB_of hB], lns_len hB, ⟨by omega, by omega⟩, by rw [wt_pop]; omega, fun i hi => ?_⟩
  obtain ⟨l, hl, hL⟩ := lns_at hB i hi
  have hl24 := (hL.facts hB).1
  have := oval_all hB hV hVB (by omega) ht hL
  rw [hl, andI_nat, wt_pop]
  have hle : l &&& V ≤ l := Nat.and_le_left
  exact ⟨⟨by omega, by omega⟩, ⟨by omega, by omega⟩, by omega⟩
end Go.Proofs.YtmeejnkpaiinaacGreatDoor
/- Drawing for the promises of arcs: l92Four, DrawPlaneFour, DrawPlaneSub. -/
namespace Go.Proofs.YtmeejnkpaiinaacGreatDoor
open Go.RowKit
set_option linter.unusedVariables false
attribute [local irreducible] octS cN octF syn

theorem or_step (v : Int) (n : Nat) (h0 : 0 ≤ v) (h1 : v ≤ 16777215) (hn : n < 16777216) : bits .or .i64 v (n : Int) = orI v (n : Int) ∧ 0 ≤ orI v (n : Int) ∧ orI v (n : Int) ≤ 16777215 :=
  ⟨or_i64 v n h0 (by omega) (by omega) (by omega), orI_nonneg _ _, orI_le _ _ h1 (by omega)⟩
theorem shl_step (P : Nat) (h : P < 24) : ∃ n : Nat, n < 16777216 ∧ wrap64 ((2 : Int) ^ P) = (n : Int) := by
  have hp24 : 2 ^ P < 16777216 := pow_lt24 P h
  have h2c : ((2 : Int) ^ P) = ((2 ^ P : Nat) : Int) := by push_cast; rfl
  generalize (2 : Nat) ^ P = pw at hp24 h2c
  exact ⟨pw, hp24, by rw [h2c]; unfold wrap64; omega⟩
set_option maxHeartbeats 2000000 in
theorem l92Four_calls (A : Option Addr) (c : Nat) (bs : List Int) (w : World) (hr : Rds w w.heap.size .u8 A bs) (hc : bs.length ≤ c) (hm : c ≤ maxLen) (hv : ∀ i, 0 ≤ bs.getD i 0 ∧ bs.getD i 0 ≤ 255) :
    Calls Tryz.prog 78 #[.slice A bs.length c] w fun e w' => ∃ b x : Int, e = .returned (.tuple #[.int .i64 b, .int .i64 x]) ∧ Below w.heap.size w w' := by
  go_enter Tryz.func78, Tryz.ntmps78
  go_wp2_with fail
  refine (l6Open_calls A c bs _ hr hc hm hv).mono ?_
  rintro e w1 ⟨g, rfl, hg, r1, b1⟩
  go_wp2_with fail
  refine (l92Base_calls g 0 _ r1 (by omega)).mono ?_
  rintro e w2 ⟨b, q1, rfl, b0, b2, hq1, r2, g2⟩
  have HB2 := Lib.hid (b1.trans (grown_below g2 hg b1.size))
  have HS2 := Lib.hid (Nat.le_trans b1.size g2.size)
  clear b1 hr hv
  go_wp2_with fail
  go_loopw [6, 7] (fun z i wr => ∃ (k q' : Nat) (v : Int), i = .int .i64 (k : Int) ∧ k ≤ 4 ∧ z = .int .i64 v ∧ 0 ≤ v ∧ v ≤ 16777215 ∧ q' ≤ q1 + 60 * k ∧ Rd wr g q' ∧ w2.grownBy wr (some g)) (fun _ i _ => 4 - (intOf i).toNat)
  case atStart => exact ⟨0, q1, 0, rfl, by omega, rfl, by omega, by omega, by omega, r2, World.grownBy.refl _ _⟩
  case round =>
    obtain ⟨k, q', v, rfl, hk, rfl, v0, v1, hqq, hr, hgr⟩ := hrel
    by_cases hlt : k < 4
    · have hk1 : (k : Int) < 4 := by omega
      go_wp2_with fail
      refine (l92Point_calls g q' b _ hr (by omega) b0 b2).mono ?_
      rintro e w3 ⟨p, rfl, p0, p1, q3, hq3, r3, g3⟩
      obtain ⟨P, rfl⟩ := Int.eq_ofNat_of_zero_le p0
      have hp3 : (P : Int) < 64 := by omega
      obtain ⟨pw, hp24, hsh⟩ := shl_step P (by omega)
      obtain ⟨hor, o0, o1⟩ := or_step v pw v0 v1 hp24
      generalize orI v (pw : Int) = u at *
      go_wp2_with fail
      go_roundw
      case rel => exact ⟨k + 1, q3, u, by go_num, by omega, by first | rfl | (simp [hor]; done), o0, o1, by omega, r3, grown_trans hgr g3⟩
      case measure => simp [intOf]; omega
    · obtain rfl : k = 4 := by omega
      go_wp2_with fail
      go_ret2
      exact ⟨_, _, rfl, HB2.out.trans (grown_below hgr (by omega) HB2.out.size)⟩
theorem DrawPlaneFour_calls (A : Option Addr) (c : Nat) (bs : List Int) (w : World) (hr : Rds w w.heap.size .u8 A bs) (hc : bs.length ≤ c) (hm : c ≤ maxLen) (hv : ∀ i, 0 ≤ bs.getD i 0 ∧ bs.getD i 0 ≤ 255) :
    Calls Tryz.prog 29 #[.slice A bs.length c] w fun e w' => ∃ b x : Int, e = .returned (.tuple #[.int .i64 b, .int .i64 x]) ∧ Below w.heap.size w w' := by
  go_enter Tryz.func29, Tryz.ntmps29
  go_wp2_with fail
  refine (l92Four_calls A c bs _ hr hc hm hv).mono ?_
  rintro e w1 ⟨b, x, rfl, b1⟩
  go_wp2_with fail
  go_ret2
  exact ⟨b, x, rfl, b1⟩
theorem DrawPlaneSub_calls (A : Option Addr) (c : Nat) (bs : List Int) (w : World) (hr : Rds w w.heap.size .u8 A bs) (hc : bs.length ≤ c) (hm : c ≤ maxLen) (hv : ∀ i, 0 ≤ bs.getD i 0 ∧ bs.getD i 0 ≤ 255) :
    Calls Tryz.prog 34 #[.slice A bs.length c] w fun e w' => ∃ b x : Int, e = .returned (.tuple #[.int .i64 b, .int .i64 x]) ∧ Below w.heap.size w w' := by
  go_enter Tryz.func34, Tryz.ntmps34
  go_wp2_with fail
  refine (l92Four_calls A c bs _ hr hc hm hv).mono ?_
  rintro e w1 ⟨b, x, rfl, b1⟩
  go_wp2_with fail
  go_ret2
  exact ⟨b, x, rfl, b1⟩
end Go.Proofs.YtmeejnkpaiinaacGreatDoor