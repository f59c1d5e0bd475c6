import Derived.Test.YtmeejnkpaiinaacGreatDoorC93
import Derived.Test.YtmeejnkpaiinaacGreatDoorC149
import Derived.Test.YtmeejnkpaiinaacGreatDoorR1
import Derived.Test.YtmeejnkpaiinaacGreatDoorQ7
import Derived.Deep.RegionHeld3
/- Ovals through two places of a base: the answers and the model's list. -/
namespace Go.Proofs.YtmeejnkpaiinaacGreatDoor
open Go.RowKit
set_option linter.unusedVariables false
attribute [local irreducible] octS cN octF syn

theorem plOvals_base {b p q : Int} (h : baseB b = false) : plOvals b p q = ([], false) := by simp [plOvals, ovlB, h]
theorem plOvals_two {b p q : Int} (h : ¬ ((0 ≤ p ∧ p ≤ 23) ∧ (0 ≤ q ∧ q ≤ 23) ∧ p ≠ q)) : plOvals b p q = ([], false) := by
  have : ovlB b p q = false := by
    rw [Bool.eq_false_iff]
    intro hc
    simp only [ovlB, Bool.and_eq_true, decide_eq_true_eq] at hc
    exact h ⟨hc.2.1, hc.2.2.1, hc.2.2.2.1⟩
  simp [plOvals, this]
theorem plOvals_bits {B P Q : Nat} (hB : IsBase B) (hP : P < 24) (hQ : Q < 24) (h : P ≠ Q) : plOvals (B : Int) (P : Int) (Q : Int) = if B.testBit P && B.testBit Q then (ovl (B : Int) ((2 ^ P ||| 2 ^ Q : Nat) : Int), true) else ([], false) := by
  have h1 : decide ((0 : Int) ≤ P ∧ (P : Int) ≤ 23) = true := decide_eq_true ⟨by omega, by omega⟩
  have h2 : decide ((0 : Int) ≤ Q ∧ (Q : Int) ≤ 23) = true := decide_eq_true ⟨by omega, by omega⟩
  have h3 : decide ((P : Int) ≠ Q) = true := decide_eq_true (by omega)
  unfold plOvals ovlB
  rw [baseB_of hB, h1, h2, h3, bitI_nat, bitI_nat, powI_or P Q h]
  cases B.testBit P <;> cases B.testBit Q <;> simp
theorem all_bits {B P Q : Nat} : (andI (B : Int) ((2 ^ P ||| 2 ^ Q : Nat) : Int) == ((2 ^ P ||| 2 ^ Q : Nat) : Int)) = (B.testBit P && B.testBit Q) := by
  rw [andI_nat, Bool.eq_iff_iff, beq_iff_eq, Bool.and_eq_true, ← has_bits (l := B)]
  constructor
  · intro h; omega
  · intro h; omega
set_option maxRecDepth 100000 in
set_option maxHeartbeats 2000000 in
theorem sPlaneOvals_calls (b p q : Int) (w : World) :
    Calls Tryz.prog 27 #[.int .i64 b, .int .i64 p, .int .i64 q] w (GotL w (plOvals b p q).1 (plOvals b p q).2) := by
  have HO := Lib.hid (own_empty w w.heap.size (Nat.le_refl _))
  have HA0 := Lib.hid ((Below.refl w.heap.size w).alloc (Nat.le_refl _) (.cells #[] 3))
  rcases hb : baseB b with _ | _
  · rw [plOvals_base hb]
    have HN := Lib.hid (l6pBase_no b hb)
    clear hb
    go_enter Tryz.func27, Tryz.ntmps27
    go_wp2_with (go_at_call 56; refine (HN.out _).mono ?_; rintro e w' ⟨rfl, rfl⟩)
    go_ret2
    exact ⟨_, rfl, HO.out, HA0.out⟩
  have HN := Lib.hid (l6pBase_yes b hb)
  by_cases hp : 0 ≤ p ∧ p ≤ 23
  · by_cases hq : 0 ≤ q ∧ q ≤ 23
    · by_cases hpq : p = q
      · rw [plOvals_two (fun h => h.2.2 hpq)]
        subst hpq
        clear hb
        go_enter Tryz.func27, Tryz.ntmps27
        go_wp2_with (first
          | (go_at_call 56; refine (HN.out _).mono ?_; rintro e w' ⟨rfl, rfl⟩)
          | (go_at_call 74; refine (l6In_ok _ _ _ _ (by omega) (by omega)).mono ?_; rintro e w' ⟨rfl, rfl⟩))
        go_ret2
        exact ⟨_, rfl, HO.out, HA0.out⟩
      · obtain ⟨B, rfl, hB⟩ := baseB_nat hb
        obtain ⟨P, rfl⟩ := Int.eq_ofNat_of_zero_le hp.1
        obtain ⟨Q, rfl⟩ := Int.eq_ofNat_of_zero_le hq.1
        have hP : P < 24 := by omega
        have hQ : Q < 24 := by omega
        have hne : P ≠ Q := by omega
        rw [plOvals_bits hB hP hQ hne]
        have hpqb : ((P : Int) == (Q : Int)) = false := by simpa using hpq
        have HBP := Lib.hid (fun W => l1Bit_calls (B : Int) (P : Int) W (by omega) (by omega))
        have HBQ := Lib.hid (fun W => l1Bit_calls (B : Int) (Q : Int) W (by omega) (by omega))
        rw [bitI_nat] at HBP HBQ
        clear hb hpq
        rcases hbp : B.testBit P with _ | _
        · rw [hbp] at HBP
          simp only [Bool.false_and, Bool.false_eq_true, if_false]
          generalize (B : Int) = b at *
          go_enter Tryz.func27, Tryz.ntmps27
          go_wp2_with (first
            | (go_at_call 56; refine (HN.out _).mono ?_; rintro e w' ⟨rfl, rfl⟩)
            | (go_at_call 74; refine (l6In_ok _ _ _ _ (by omega) (by omega)).mono ?_; rintro e w' ⟨rfl, rfl⟩))
          refine (HBP.out _).mono ?_
          rintro e w' ⟨rfl, rfl⟩
          go_wp2_with fail
          go_ret2
          exact ⟨_, rfl, HO.out, HA0.out⟩
        rcases hbq : B.testBit Q with _ | _
        · rw [hbp] at HBP
          rw [hbq] at HBQ
          simp only [Bool.and_false, Bool.false_eq_true, if_false]
          generalize (B : Int) = b at *
          go_enter Tryz.func27, Tryz.ntmps27
          go_wp2_with (first
            | (go_at_call 56; refine (HN.out _).mono ?_; rintro e w' ⟨rfl, rfl⟩)
            | (go_at_call 74; refine (l6In_ok _ _ _ _ (by omega) (by omega)).mono ?_; rintro e w' ⟨rfl, rfl⟩))
          refine (HBP.out _).mono ?_
          rintro e w' ⟨rfl, rfl⟩
          go_wp2_with fail
          refine (HBQ.out _).mono ?_
          rintro e w' ⟨rfl, rfl⟩
          go_wp2_with fail
          go_ret2
          exact ⟨_, rfl, HO.out, HA0.out⟩
        rw [hbp] at HBP
        rw [hbq] at HBQ
        simp only [Bool.and_self, if_true]
        have wB : IsW (B : Int) := ⟨by omega, by have := hB.1; omega⟩
        have wT : IsW ((2 ^ P ||| 2 ^ Q : Nat) : Int) := by have := or_lt24 P Q hP hQ; exact ⟨by omega, by omega⟩
        have HLEN := Lib.hid (show (ovl (B : Int) ((2 ^ P ||| 2 ^ Q : Nat) : Int)).length = 56 from ovl_len hB (has_bits.2 ⟨hbp, hbq⟩) (pair_pop P Q hP hQ hne))
        have hpw : powI (P : Int) + powI (Q : Int) = ((2 ^ P ||| 2 ^ Q : Nat) : Int) := powI_or P Q hne
        have HWT := Lib.hid (show wrap64 (wrap64 ((2 : Int) ^ P) + wrap64 ((2 : Int) ^ Q)) = ((2 ^ P ||| 2 ^ Q : Nat) : Int) from wrap_two P Q hP hQ hne)
        have HSX := Lib.hid (fun M (h1 : M.Perm ((octS.filter fun x => andI x (B : Int) == ((2 ^ P ||| 2 ^ Q : Nat) : Int)).map fun x => xorI x ((2 ^ P ||| 2 ^ Q : Nat) : Int))) h2 => show M = ovl (B : Int) ((2 ^ P ||| 2 ^ Q : Nat) : Int) from sortI_eq h1 h2)
        generalize ovl (B : Int) ((2 ^ P ||| 2 ^ Q : Nat) : Int) = OV at *
        generalize ((2 ^ P ||| 2 ^ Q : Nat) : Int) = t at *
        generalize (B : Int) = b at *
        clear hbp hbq
        go_enter Tryz.func27, Tryz.ntmps27
        go_wp2_with (first
          | (go_at_call 56; refine (HN.out _).mono ?_; rintro e w' ⟨rfl, rfl⟩)
          | (go_at_call 74; refine (l6In_ok _ _ _ _ (by omega) (by omega)).mono ?_; rintro e w' ⟨rfl, rfl⟩))
        refine (HBP.out _).mono ?_
        rintro e w' ⟨rfl, rfl⟩
        go_wp2_with fail
        refine (HBQ.out _).mono ?_
        rintro e w' ⟨rfl, rfl⟩
        go_wp2_with fail
        go_quiet (fail)
        go_wp2_with fail
        have hwt : wrap64 (wrap64 ((2 : Int) ^ P) + wrap64 ((2 : Int) ^ Q)) = t := HWT.out
        rw [hwt]
        clear hwt
        have HB0 := Lib.hid (below_drewN HA0.out nq)
        have HO0 := Lib.hid (HO.out.drewN nq)
        have hsz0 : ((w.alloc (.cells #[] 3)).drewN nq).heap.size = w.heap.size + 1 := by show (w.alloc _).heap.size = _; simp
        generalize (w.alloc (.cells #[] 3)).drewN nq = W0 at *
        refine (l4All_calls _).mono ?_
        rintro e w1 ⟨A, c, rfl, q1, q2, r1, a1, b1⟩
        have HB := Lib.hid (HB0.out.trans (b1.mono HB0.out.size))
        have HO1 := Lib.hid (HO0.out.below b1)
        have HR := Lib.hid r1
        have hs1 : w.heap.size < w1.heap.size := by have := b1.size; omega
        have HA := Lib.hid (show ∀ ad, A = some ad → w.heap.size < ad.block from fun ad h => by have := a1 ad h; omega)
        have HAU := Lib.hid (show ∀ ad, A = some ad → ad.block < w1.heap.size from fun ad h => by
          obtain ⟨b, o, e, hb, _⟩ := r1.at_ (j := 0) (by rw [octS_759]; decide)
          rw [e] at h; cases h; exact hb)
        clear b1 r1 a1 hsz0
        go_wp2_with fail
        go_loopw [8, 11] (fun v i wr => ∃ k : Nat, k ≤ 759 ∧ i = .int .i64 k ∧ Hid (Own wr w.heap.size v (((octS.take k).filter fun x => andI x b == t).map fun x => xorI x t)) ∧ Hid (Rds wr w1.heap.size .i64 A octS) ∧ Hid (∀ j, v.ownBlock = some j → j = w.heap.size ∨ w1.heap.size ≤ j) ∧ Hid (Below w.heap.size w wr) ∧ w1.heap.size ≤ wr.heap.size) (fun _ i _ => 759 - (intOf i).toNat)
        case atStart => exact ⟨0, by omega, rfl, HO1, HR, Lib.hid (fun j h => by simp [Value.ownBlock] at h; omega), HB, Nat.le_refl _⟩
        case round =>
          obtain ⟨k, hk, rfl, ho, hr, hj, hb, hz⟩ := hrel
          by_cases hlt : k < 759
          · have HS := Lib.hid (show (octS.take (k + 1)).filter (fun x => andI x b == t) = if andI (octS.getD k 0) b == t then (octS.take k).filter (fun x => andI x b == t) ++ [octS.getD k 0] else (octS.take k).filter (fun x => andI x b == t) by rw [oct_take k hlt, filter_snoc])
            obtain ⟨bb, o, rfl, hb1, hc⟩ := hr.out.at_ (j := k) (by rw [octS_759]; exact hlt)
            have hx := (oct_at k hlt).rng
            have hl : (((octS.take k).filter fun x => andI x b == t).map fun x => xorI x t).length ≤ 759 := by
              rw [List.length_map]
              have h1 := List.length_filter_le (fun x => andI x b == t) (octS.take k)
              have h2 := List.length_take_le k octS
              omega
            have hq1 : (0 : Int) ≤ (k : Int) := by omega
            have hq2 : (k : Int) < 759 := by omega
            generalize octS.getD k 0 = x at *
            have hxw := and_i64w x b hx wB
            have hxx : bits .xor .i64 x t = xorI x t := xor_i64 x t hx.1 (by omega) wT.1 (by have := wT.2; omega)
            generalize (octS.take k).filter (fun x => andI x b == t) = L at *
            cases hP : andI x b == t
            · have HS2 := Lib.hid (show (octS.take (k + 1)).filter (fun x => andI x b == t) = L by rw [HS.out, hP]; rfl)
              go_wp2_with fail
              go_roundw
              case rel => exact ⟨k + 1, by omega, by go_num, by rw [HS2.out]; exact ho, hr, hj, hb, hz⟩
              case measure => simp [intOf]; omega
            · have HS2 := Lib.hid (show ((octS.take (k + 1)).filter (fun x => andI x b == t)).map (fun x => xorI x t) = L.map (fun x => xorI x t) ++ [xorI x t] by rw [HS.out, hP, if_pos rfl, List.map_append]; rfl)
              generalize L.map (fun x => xorI x t) = M at *
              go_wp2_with (at_builtin; refine wpList_pushAt rfl _ _ rfl _ w.heap.size _ _ _ _ rfl rfl (by exact ho.out) (by omega) (by omega) ?_; intro v2 w2 ho2 hb2 hg2 hat)
              go_roundw
              case rel =>
                refine ⟨k + 1, by omega, by go_num, by rw [HS2.out]; exact Lib.hid ho2, Lib.hid (hr.out.apart hg2 hz fun ad h e => ?_), Lib.hid (fun j h => ?_), Lib.hid (hb.out.trans hb2), Nat.le_trans hz hg2.size⟩
                · have h1 := HA.out ad h
                  have h2 := HAU.out ad h
                  rcases hj.out _ e with h3 | h3 <;> omega
                · rcases hat j h with h1 | h1
                  · exact hj.out j h1
                  · exact .inr (by omega)
              case measure => simp [intOf]; omega
          · obtain rfl : k = 759 := by omega
            rw [oct_take_all] at ho
            have hlen : ((octS.filter fun x => andI x b == t).map fun x => xorI x t).length = 56 := by
              rw [← HLEN.out, ← HSX.out _ (sortI_perm _) (sortI_pair _), sortI_len]
            obtain ⟨A2, c2, rfl⟩ := ho.out.slice
            obtain ⟨q1, q2⟩ := own_caps ho.out
            have HLN := Lib.hid hlen
            rw [hlen] at q1
            have HSORT := Lib.hid (l4Sort_calls 56 ((octS.filter fun x => andI x b == t).map fun x => xorI x t) A2 c2 wr hlen (by omega) q1 q2 ho.out.rds)
            clear hlen
            generalize ((octS.filter fun x => andI x b == t).map fun x => xorI x t) = M at *
            rw [HLN.out]
            go_wp2_with fail
            refine HSORT.out.mono ?_
            rintro e w3 ⟨A', c', ys, rfl, p1, s1, l1, m1, r1, a1, b3, of⟩
            have hys := HSX.out ys p1 s1
            have ow := Lib.hid ((of (by omega)).weak hb.out.size)
            have hB3 := hb.out.trans (b3.mono hb.out.size)
            rw [hys] at ow
            go_wp2_with fail
            go_ret2
            exact ⟨_, rfl, ow.out, hB3⟩
    · rw [plOvals_two (fun h => hq h.2.1)]
      clear hb
      go_enter Tryz.func27, Tryz.ntmps27
      go_wp2_with (first
        | (go_at_call 56; refine (HN.out _).mono ?_; rintro e w' ⟨rfl, rfl⟩)
        | (go_at_call 74; refine (l6In_ok _ _ _ _ (by omega) (by omega)).mono ?_; rintro e w' ⟨rfl, rfl⟩)
        | (go_at_call 74; refine (l6In_no _ _ _ _ (by omega)).mono ?_; rintro e w' ⟨rfl, rfl⟩))
      go_ret2
      exact ⟨_, rfl, HO.out, HA0.out⟩
  · rw [plOvals_two (fun h => hp h.1)]
    clear hb
    go_enter Tryz.func27, Tryz.ntmps27
    go_wp2_with (first
      | (go_at_call 56; refine (HN.out _).mono ?_; rintro e w' ⟨rfl, rfl⟩)
      | (go_at_call 74; refine (l6In_no _ _ _ _ (by omega)).mono ?_; rintro e w' ⟨rfl, rfl⟩))
    go_ret2
    exact ⟨_, rfl, HO.out, HA0.out⟩
end Go.Proofs.YtmeejnkpaiinaacGreatDoor
/- Drawing ovals: DrawPlaneOval. -/
namespace Go.Proofs.YtmeejnkpaiinaacGreatDoor
open Go.RowKit
set_option linter.unusedVariables false
set_option linter.unusedSimpArgs false
attribute [local irreducible] octS cN octF syn

theorem mask_step (b : Int) (h0 : -1 ≤ b) (h1 : b ≤ 16777216) : ∃ W : Nat, bits .and .i64 b 16777215 = (W : Int) := by
  by_cases h : 0 ≤ b
  · refine ⟨b.toNat &&& 16777215, ?_⟩
    rw [and_i64 b 16777215 h (by omega) (by omega) (by omega)]
    rfl
  · obtain rfl : b = -1 := by omega
    exact ⟨16777215, by decide +kernel⟩
theorem ovl_few (B T : Int) : (ovl B T).length ≤ 759 := by
  rw [ovl_cnt, ← octS_759]
  exact List.countP_le_length
theorem plOvals_few (b p q : Int) : (plOvals b p q).1.length ≤ 759 := by
  unfold plOvals
  split
  · exact ovl_few _ _
  · exact Nat.zero_le _
theorem three_len {L : List Int} (h : L.length = 3) : ∃ x y z, L = [x, y, z] := by
  match L, h with
  | [x, y, z], _ => exact ⟨x, y, z, rfl⟩
set_option maxHeartbeats 4000000 in
theorem DrawPlaneOval_calls (A : Option Addr) (c : Nat) (bs : List Int) (w : World) (hr : Rds w w.heap.size .u8 A bs) (hc : bs.length ≤ c) (hm : c ≤ maxLen) (hv : ∀ i, 0 ≤ bs.getD i 0 ∧ bs.getD i 0 ≤ 255) :
    Calls Tryz.prog 20 #[.slice A bs.length c] w fun e w' => ∃ b x : Int, e = .returned (.tuple #[.int .i64 b, .int .i64 x]) ∧ Below w.heap.size w w' := by
  go_enter Tryz.func20, Tryz.ntmps20
  go_wp2_with fail
  refine (l6Open_calls A c bs _ hr hc hm hv).mono ?_
  rintro e w1 ⟨g, rfl, hg, r1, b1⟩
  go_wp2_with fail
  refine (l92Base_calls g 0 _ r1 (by omega)).mono ?_
  rintro e w2 ⟨b, q1, rfl, b0, b2, hq1, r2, g2⟩
  have HB2 := Lib.hid (b1.trans (grown_below g2 hg b1.size))
  have hg2 : g < w2.heap.size := r2.lt
  clear g2 b1 r1 hr hv
  obtain ⟨W, hmask⟩ := mask_step b b0 b2
  have HPL := Lib.hid (l1Places_calls W w2)
  go_wp2_with fail
  refine HPL.out.mono ?_
  rintro e w3 ⟨v, rfl, o3, b3⟩
  clear HPL hmask
  obtain ⟨A1, c1, rfl⟩ := o3.slice
  have R3 := Lib.hid (r2.below b3)
  have HB3 := Lib.hid (HB2.out.trans (b3.mono HB2.out.size))
  have O3 := Lib.hid o3
  clear o3 b3 r2
  have HL63 := Lib.hid (O3.out.len_le)
  generalize plI W = L at *
  by_cases hb0 : 0 ≤ b
  · by_cases h3 : L.length = 3
    · obtain ⟨x, y, z, rfl⟩ := three_len h3
      clear h3
      simp only [List.length_cons, List.length_nil, Nat.reduceAdd]
      go_wp2_with fail
      refine (pick_calls g _ 3 _ (by exact R3.out) (by omega) (by omega) (by omega)).mono ?_
      rintro e w4 ⟨a, rfl, a0, a1, r4, g4⟩
      have R4 := Lib.hid r4
      have HB4 := Lib.hid (HB3.out.trans (grown_below g4 hg HB3.out.size))
      by_cases ha : a = 0
      · subst ha
        clear O3 g4 r4
        go_wp2_with fail
        refine (l91Places_calls g _ 6 _ (by exact R4.out) (by omega) (by omega) (by omega)).mono ?_
        rintro e wa ⟨va, xs, qa, rfl, oa, hla, _, hqa, ra, ga⟩
        have HBa := Lib.hid (HB4.out.trans (grown_below ga hg HB4.out.size))
        obtain ⟨Aa, ca, rfl⟩ := oa.slice
        have HS := Lib.hid (sWordOf_calls Aa ca xs wa oa.rds oa.len_le)
        clear oa ra ga
        rcases hf : wof xs with _ | t
        all_goals
          rw [hf] at HS
          clear hf
          go_wp2_with fail
          refine HS.out.mono ?_
          rintro e w' ⟨he, rfl⟩
          simp only [resW] at he
          subst he
          go_wp2_with fail
          go_ret2
          exact ⟨_, _, rfl, HBa.out⟩
      have ha2 : 0 < a := by omega
      clear ha
      obtain ⟨gz, rfl, hgz1, hgz2⟩ := own_at O3.out (by simp)
      have hgzg : gz ≠ g := by omega
      have k0 : w3.cell? ⟨gz, 0, none⟩ = some (.int .i64 x) := O3.out.cell (j := 0) (by simp)
      have k1 : w3.cell? ⟨gz, 1, none⟩ = some (.int .i64 y) := O3.out.cell (j := 1) (by simp)
      have hc0 : w4.cell? ⟨gz, 0, none⟩ = some (.int .i64 x) := (World.cell?_of_block (g4.block gz hgz2 (fun e => by simp at e; omega))).trans k0
      have hc1 : w4.cell? ⟨gz, 1, none⟩ = some (.int .i64 y) := (World.cell?_of_block (g4.block gz hgz2 (fun e => by simp at e; omega))).trans k1
      have hgz4 : gz < w4.heap.size := World.block_lt_of_cell? w4 ⟨gz, 0, none⟩ hc0
      have hfew := plOvals_few b x y
      rcases hov : plOvals b x y with ⟨ys, ok⟩
      rw [hov] at hfew
      dsimp only at hfew
      clear g4 r4 k0 k1 O3
      go_wp2_with fail
      refine wp_region_held_drew (S := fun w' => w'.cell? ⟨gz, 0, none⟩ = some (.int .i64 x) ∧ w'.cell? ⟨gz, 1, none⟩ = some (.int .i64 y)) (by kernel_rfl) ⟨hc0, hc1⟩ (fun hd => ?_)
      refine wpAnyH_take (i := 0) (v := .int .i64 b) rfl (by kernel_rfl) (by kernel_rfl) (by kernel_rfl) (fun _ _ _ h => h) (Or.inl ⟨by kernel_rfl, fun w _ => by kernel_rfl⟩) hd ?_
      change wpAnyH _ _ _ _ _ _ _ (Act.put _ (some 31) (.int .i64 b)) _
      simp only [Act.put, List.setIfInBounds_toArray, List.set_cons_zero, List.set_cons_succ]
      refine wpAnyH_take (i := 1) (v := .slice (some ⟨gz, 0, none⟩) 3 c1) rfl (by kernel_rfl) (by kernel_rfl) (by kernel_rfl) (fun _ _ _ h => h) (Or.inl ⟨by kernel_rfl, fun w _ => by kernel_rfl⟩) hd ?_
      change wpAnyH _ _ _ _ _ _ _ (Act.put _ (some 32) (.slice (some ⟨gz, 0, none⟩) 3 c1)) _
      simp only [Act.put, List.setIfInBounds_toArray, List.set_cons_zero, List.set_cons_succ]
      refine wpAnyH_take (i := 2) (v := .pointer (some ⟨gz, 0, none⟩)) rfl (by kernel_rfl) (by kernel_rfl) (by kernel_rfl) (fun _ _ _ h => h) (Or.inl ⟨by kernel_rfl, fun w hS => by go_simp⟩) hd ?_
      change wpAnyH _ _ _ _ _ _ _ (Act.put _ (some 33) (.pointer (some ⟨gz, 0, none⟩))) _
      simp only [Act.put, List.setIfInBounds_toArray, List.set_cons_zero, List.set_cons_succ]
      refine wpAnyH_take (i := 3) (v := .int .i64 x) rfl (by kernel_rfl) (by kernel_rfl) (by kernel_rfl) (fun _ _ _ h => h) (Or.inl ⟨by kernel_rfl, fun w hS => by have hS1 := hS.1; have hS2 := hS.2; go_simp⟩) hd ?_
      change wpAnyH _ _ _ _ _ _ _ (Act.put _ (some 34) (.int .i64 x)) _
      simp only [Act.put, List.setIfInBounds_toArray, List.set_cons_zero, List.set_cons_succ]
      refine wpAnyH_take (i := 4) (v := .slice (some ⟨gz, 0, none⟩) 3 c1) rfl (by kernel_rfl) (by kernel_rfl) (by kernel_rfl) (fun _ _ _ h => h) (Or.inl ⟨by kernel_rfl, fun w _ => by kernel_rfl⟩) hd ?_
      change wpAnyH _ _ _ _ _ _ _ (Act.put _ (some 35) (.slice (some ⟨gz, 0, none⟩) 3 c1)) _
      simp only [Act.put, List.setIfInBounds_toArray, List.set_cons_zero, List.set_cons_succ]
      refine wpAnyH_take (i := 5) (v := .pointer (some ⟨gz, 1, none⟩)) rfl (by kernel_rfl) (by kernel_rfl) (by kernel_rfl) (fun _ _ _ h => h) (Or.inl ⟨by kernel_rfl, fun w hS => by go_simp⟩) hd ?_
      change wpAnyH _ _ _ _ _ _ _ (Act.put _ (some 36) (.pointer (some ⟨gz, 1, none⟩))) _
      simp only [Act.put, List.setIfInBounds_toArray, List.set_cons_zero, List.set_cons_succ]
      refine wpAnyH_take (i := 6) (v := .int .i64 y) rfl (by kernel_rfl) (by kernel_rfl) (by kernel_rfl) (fun _ _ _ h => h) (Or.inl ⟨by kernel_rfl, fun w hS => by have hS1 := hS.1; have hS2 := hS.2; go_simp⟩) hd ?_
      change wpAnyH _ _ _ _ _ _ _ (Act.put _ (some 37) (.int .i64 y)) _
      simp only [Act.put, List.setIfInBounds_toArray, List.set_cons_zero, List.set_cons_succ]
      refine wpAnyH_ready (rs := [7]) (by kernel_rfl) (by simp) ?_
      refine AllReadyH.cons rfl (fun K hK => ?_) AllReadyH.nil
      go_simp
      go_at_call 27
      refine (sPlaneOvals_calls b x y _).mono ?_
      rintro e w5 ⟨v5, he, o5, b5⟩
      rw [hov] at he o5
      dsimp only at he o5
      subst he
      obtain ⟨A5, c5, rfl⟩ := o5.slice
      have hd2 := And.intro ((b5.cell (p := ⟨gz, 0, none⟩) hgz4).trans hc0) ((b5.cell (p := ⟨gz, 1, none⟩) hgz4).trans hc1)
      refine hK.out _ _ hd2 (fun _ => ?_)
      refine wpAnyH_take (i := 8) (v := .tuple #[.slice A5 ys.length c5, .bool ok]) rfl (by kernel_rfl) (by kernel_rfl) (by kernel_rfl) (fun _ _ _ h => h) (Or.inl ⟨by kernel_rfl, fun w _ => by kernel_rfl⟩) hd2 ?_
      change wpAnyH _ _ _ _ _ _ _ (Act.put _ (some 30) (.tuple #[.slice A5 ys.length c5, .bool ok])) _
      simp only [Act.put, List.setIfInBounds_toArray, List.set_cons_zero, List.set_cons_succ]
      refine wpAnyH_take (i := 9) (v := .slice A5 ys.length c5) rfl (by kernel_rfl) (by kernel_rfl) (by kernel_rfl) (fun _ _ _ h => h) (Or.inl ⟨by kernel_rfl, fun w hS => by go_simp⟩) hd2 ?_
      change wpAnyH _ _ _ _ _ _ _ (Act.put _ (some 39) (.slice A5 ys.length c5)) _
      simp only [Act.put, List.setIfInBounds_toArray, List.set_cons_zero, List.set_cons_succ]
      refine wpAnyH_take (i := 10) (v := .bool ok) rfl (by kernel_rfl) (by kernel_rfl) (by kernel_rfl) (fun _ _ _ h => h) (Or.inl ⟨by kernel_rfl, fun w hS => by go_simp⟩) hd2 ?_
      change wpAnyH _ _ _ _ _ _ _ (Act.put _ (some 40) (.bool ok)) _
      simp only [Act.put, List.setIfInBounds_toArray, List.set_cons_zero, List.set_cons_succ]
      refine wpAnyH_take (i := 11) (v := .slice A5 ys.length c5) rfl (by kernel_rfl) (by kernel_rfl) (by kernel_rfl) (fun _ _ _ h => h) (Or.inl ⟨by kernel_rfl, fun w _ => by kernel_rfl⟩) hd2 ?_
      change wpAnyH _ _ _ _ _ _ _ (Act.put _ (some 7) (.slice A5 ys.length c5)) _
      simp only [Act.put, List.setIfInBounds_toArray, List.set_cons_zero, List.set_cons_succ]
      refine wpAnyH_take (i := 12) (v := .bool ok) rfl (by kernel_rfl) (by kernel_rfl) (by kernel_rfl) (fun _ _ _ h => h) (Or.inl ⟨by kernel_rfl, fun w _ => by kernel_rfl⟩) hd2 ?_
      change wpAnyH _ _ _ _ _ _ _ (Act.put _ (some 8) (.bool ok)) _
      simp only [Act.put, List.setIfInBounds_toArray, List.set_cons_zero, List.set_cons_succ]
      refine wpAnyH_done (by kernel_rfl) ?_ _
      have R5 := Lib.hid (R4.out.below ((below_drewN (Below.refl w4.heap.size w4) 1).trans (b5.mono (by first | exact Nat.le_refl _ | simp))))
      have HB5 := Lib.hid (HB4.out.trans ((below_drewN (Below.refl w4.heap.size w4) 1).trans (b5.mono (by first | exact Nat.le_refl _ | simp)) |>.mono HB4.out.size))
      have HO5 := Lib.hid o5
      have hgy5 := own_lo' o5
      have hg4 : g < w4.heap.size := R4.out.lt
      clear b5 o5 hd hd2 hc0 hc1 hov
      rcases ok with _ | _
      · clear HO5
        go_wp2_with fail
        refine (l91Places_calls g _ 6 _ (by exact R5.out) (by omega) (by omega) (by omega)).mono ?_
        rintro e wa ⟨va, xs, qa, rfl, oa, hla, _, hqa, ra, ga⟩
        have HBa := Lib.hid (HB5.out.trans (grown_below ga hg HB5.out.size))
        obtain ⟨Aa, ca, rfl⟩ := oa.slice
        have HS := Lib.hid (sWordOf_calls Aa ca xs wa oa.rds oa.len_le)
        clear oa ra ga
        rcases hf : wof xs with _ | t
        all_goals
          rw [hf] at HS
          clear hf
          go_wp2_with fail
          refine HS.out.mono ?_
          rintro e w' ⟨he, rfl⟩
          simp only [resW] at he
          subst he
          go_wp2_with fail
          go_ret2
          exact ⟨_, _, rfl, HBa.out⟩
      by_cases hy : ys.length = 0
      · have hy2 : ¬ (0 : Int) < (ys.length : Int) := by omega
        clear HO5
        go_wp2_with fail
        refine (l91Places_calls g _ 6 _ (by exact R5.out) (by omega) (by omega) (by omega)).mono ?_
        rintro e wa ⟨va, xs, qa, rfl, oa, hla, _, hqa, ra, ga⟩
        have HBa := Lib.hid (HB5.out.trans (grown_below ga hg HB5.out.size))
        obtain ⟨Aa, ca, rfl⟩ := oa.slice
        have HS := Lib.hid (sWordOf_calls Aa ca xs wa oa.rds oa.len_le)
        clear oa ra ga
        rcases hf : wof xs with _ | t
        all_goals
          rw [hf] at HS
          clear hf
          go_wp2_with fail
          refine HS.out.mono ?_
          rintro e w' ⟨he, rfl⟩
          simp only [resW] at he
          subst he
          go_wp2_with fail
          go_ret2
          exact ⟨_, _, rfl, HBa.out⟩
      have hy2 : (0 : Int) < (ys.length : Int) := by omega
      have hnn : (0 : Int) ≤ (ys.length : Int) := by omega
      obtain ⟨gy, rfl, hgy1, hgy2⟩ := own_at HO5.out (by omega)
      have hgyg : g < gy := by simp at hgy1; omega
      have hcells : ∀ j, j < ys.length → w5.cell? ⟨gy, j, none⟩ = some (.int .i64 (ys.getD j 0)) := fun j hj => HO5.out.cell hj
      have hs5 : w.heap.size ≤ w5.heap.size := HB5.out.size
      clear hgy5
      go_wp2_with fail
      refine wp_region_held_drew (S := fun w' => ∀ j, j < ys.length → w'.cell? ⟨gy, j, none⟩ = some (.int .i64 (ys.getD j 0))) (by kernel_rfl) hcells (fun hd => ?_)
      refine wpAnyH_take (i := 0) (v := .int .i64 b) rfl (by kernel_rfl) (by kernel_rfl) (by kernel_rfl) (fun _ _ _ h => h) (Or.inl ⟨by kernel_rfl, fun w _ => by kernel_rfl⟩) hd ?_
      change wpAnyH _ _ _ _ _ _ _ (Act.put _ (some 47) (.int .i64 b)) _
      simp only [Act.put, List.setIfInBounds_toArray, List.set_cons_zero, List.set_cons_succ]
      refine wpAnyH_take (i := 1) (v := .slice (some ⟨gy, 0, none⟩) ys.length c5) rfl (by kernel_rfl) (by kernel_rfl) (by kernel_rfl) (fun _ _ _ h => h) (Or.inl ⟨by kernel_rfl, fun w _ => by kernel_rfl⟩) hd ?_
      change wpAnyH _ _ _ _ _ _ _ (Act.put _ (some 48) (.slice (some ⟨gy, 0, none⟩) ys.length c5)) _
      simp only [Act.put, List.setIfInBounds_toArray, List.set_cons_zero, List.set_cons_succ]
      refine wpAnyH_take (i := 2) (v := .pointer (some ⟨g, 0, none⟩)) rfl (by kernel_rfl) (by kernel_rfl) (by kernel_rfl) (fun _ _ _ h => h) (Or.inl ⟨by kernel_rfl, fun w _ => by kernel_rfl⟩) hd ?_
      change wpAnyH _ _ _ _ _ _ _ (Act.put _ (some 49) (.pointer (some ⟨g, 0, none⟩))) _
      simp only [Act.put, List.setIfInBounds_toArray, List.set_cons_zero, List.set_cons_succ]
      refine wpAnyH_take (i := 3) (v := .slice (some ⟨gy, 0, none⟩) ys.length c5) rfl (by kernel_rfl) (by kernel_rfl) (by kernel_rfl) (fun _ _ _ h => h) (Or.inl ⟨by kernel_rfl, fun w _ => by kernel_rfl⟩) hd ?_
      change wpAnyH _ _ _ _ _ _ _ (Act.put _ (some 50) (.slice (some ⟨gy, 0, none⟩) ys.length c5)) _
      simp only [Act.put, List.setIfInBounds_toArray, List.set_cons_zero, List.set_cons_succ]
      refine wpAnyH_take (i := 4) (v := .int .i64 (ys.length : Int)) rfl (by kernel_rfl) (by kernel_rfl) (by kernel_rfl) (fun _ _ _ h => h) (Or.inl ⟨by kernel_rfl, fun w _ => by kernel_rfl⟩) hd ?_
      change wpAnyH _ _ _ _ _ _ _ (Act.put _ (some 51) (.int .i64 (ys.length : Int))) _
      simp only [Act.put, List.setIfInBounds_toArray, List.set_cons_zero, List.set_cons_succ]
      refine wpAnyH_ready (rs := [5]) (by kernel_rfl) (by simp) ?_
      refine AllReadyH.cons rfl (fun K hK => ?_) AllReadyH.nil
      go_simp
      go_at_call 61
      refine (pick_calls g _ (ys.length : Int) _ (by exact R5.out) (by omega) (by omega) (by omega)).mono ?_
      rintro e w6 ⟨zz, rfl, zz0, zz1, r6, g6⟩
      have hd2 : ∀ j, j < ys.length → w6.cell? ⟨gy, j, none⟩ = some (.int .i64 (ys.getD j 0)) := fun j hj => (World.cell?_of_block (g6.block gy (World.block_lt_of_cell? w5 ⟨gy, j, none⟩ (hcells j hj)) (fun e => by simp at e; omega))).trans (hcells j hj)
      have HB6 := Lib.hid (HB5.out.trans (((Below.refl w.heap.size w5).drew).trans (grown_below g6 hg hs5)))
      obtain ⟨jz, rfl⟩ := Int.eq_ofNat_of_zero_le zz0
      have hjz : jz < ys.length := by omega
      have hjz1 : (jz : Int) < (ys.length : Int) := by omega
      refine hK.out _ _ hd2 (fun _ => ?_)
      refine wpAnyH_take (i := 6) (v := .pointer (some ⟨gy, jz, none⟩)) rfl (by kernel_rfl) (by kernel_rfl) (by kernel_rfl) (fun _ _ _ h => h) (Or.inl ⟨by kernel_rfl, fun w hS => by go_simp⟩) hd2 ?_
      change wpAnyH _ _ _ _ _ _ _ (Act.put _ (some 53) (.pointer (some ⟨gy, jz, none⟩))) _
      simp only [Act.put, List.setIfInBounds_toArray, List.set_cons_zero, List.set_cons_succ]
      refine wpAnyH_take (i := 7) (v := .int .i64 (ys.getD jz 0)) rfl (by kernel_rfl) (by kernel_rfl) (by kernel_rfl) (fun _ _ _ h => h) (Or.inl ⟨by kernel_rfl, fun w hS => by have hS1 := hS jz hjz; go_simp⟩) hd2 ?_
      change wpAnyH _ _ _ _ _ _ _ (Act.put _ (some 54) (.int .i64 (ys.getD jz 0))) _
      simp only [Act.put, List.setIfInBounds_toArray, List.set_cons_zero, List.set_cons_succ]
      refine wpAnyH_take (i := 8) (v := .int .i64 b) rfl (by kernel_rfl) (by kernel_rfl) (by kernel_rfl) (fun _ _ _ h => h) (Or.inl ⟨by kernel_rfl, fun w _ => by kernel_rfl⟩) hd2 ?_
      change wpAnyH _ _ _ _ _ _ _ (Act.put _ (some 2) (.int .i64 b)) _
      simp only [Act.put, List.setIfInBounds_toArray, List.set_cons_zero, List.set_cons_succ]
      refine wpAnyH_take (i := 9) (v := .int .i64 (ys.getD jz 0)) rfl (by kernel_rfl) (by kernel_rfl) (by kernel_rfl) (fun _ _ _ h => h) (Or.inl ⟨by kernel_rfl, fun w _ => by kernel_rfl⟩) hd2 ?_
      change wpAnyH _ _ _ _ _ _ _ (Act.put _ (some 3) (.int .i64 (ys.getD jz 0))) _
      simp only [Act.put, List.setIfInBounds_toArray, List.set_cons_zero, List.set_cons_succ]
      refine wpAnyH_done (by kernel_rfl) ?_ _
      go_wp2_with fail
      go_ret2
      exact ⟨_, _, rfl, HB6.out⟩
    · have h3i : ((L.length : Int) == 3) = false := beq_eq_false_iff_ne.2 (by omega)
      have hn63 : (0 : Int) ≤ (L.length : Int) := by omega
      clear O3 h3
      go_wp2_with fail
      refine (l91Places_calls g _ 6 _ (by exact R3.out) (by omega) (by omega) (by omega)).mono ?_
      rintro e wa ⟨va, xs, qa, rfl, oa, hla, _, hqa, ra, ga⟩
      have HBa := Lib.hid (HB3.out.trans (grown_below ga hg HB3.out.size))
      obtain ⟨Aa, ca, rfl⟩ := oa.slice
      have HS := Lib.hid (sWordOf_calls Aa ca xs wa oa.rds oa.len_le)
      clear oa ra ga
      rcases hf : wof xs with _ | t
      all_goals
        rw [hf] at HS
        clear hf
        go_wp2_with fail
        refine HS.out.mono ?_
        rintro e w' ⟨he, rfl⟩
        simp only [resW] at he
        subst he
        go_wp2_with fail
        go_ret2
        exact ⟨_, _, rfl, HBa.out⟩
  · clear O3
    go_wp2_with fail
    refine (l91Places_calls g _ 6 _ (by exact R3.out) (by omega) (by omega) (by omega)).mono ?_
    rintro e wa ⟨va, xs, qa, rfl, oa, hla, _, hqa, ra, ga⟩
    have HBa := Lib.hid (HB3.out.trans (grown_below ga hg HB3.out.size))
    obtain ⟨Aa, ca, rfl⟩ := oa.slice
    have HS := Lib.hid (sWordOf_calls Aa ca xs wa oa.rds oa.len_le)
    clear oa ra ga
    rcases hf : wof xs with _ | t
    all_goals
      rw [hf] at HS
      clear hf
      go_wp2_with fail
      refine HS.out.mono ?_
      rintro e w' ⟨he, rfl⟩
      simp only [resW] at he
      subst he
      go_wp2_with fail
      go_ret2
      exact ⟨_, _, rfl, HBa.out⟩
end Go.Proofs.YtmeejnkpaiinaacGreatDoor