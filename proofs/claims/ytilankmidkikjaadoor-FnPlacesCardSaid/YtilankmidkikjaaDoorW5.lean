/- The walks of the laws that go through the iterator over places: the list of places, the rank. -/
import Derived.Test.YtilankmidkikjaaDoorC10
import Derived.Test.YtilankmidkikjaaDoorC11
import Derived.Test.YtilankmidkikjaaDoorC12
import Derived.Test.YtilankmidkikjaaDoorC9
import Derived.Test.YtilankmidkikjaaDoorM8
namespace Go.Proofs.YtilankmidkikjaaDoor
open Go.RowKit
set_option linter.unusedVariables false

set_option maxHeartbeats 1000000 in
theorem walk_FnExactWordPlaces (a0 : Int) (w : World) (w0 : (Lit.int .i64 a0).wf = true) (hT : Tab w) :
    Calls Tryd.prog 6 #[.int .i64 a0] w fun e w' => e = .returned (.bool true) ∧ Below w.heap.size w w' := by
  rcases isW_or a0 with h | h
  · have hlen : (plI a0.toNat).length ≤ 24 := by have := pl_len a0.toNat; simpa [plI] using this
    generalize hxs : plI a0.toNat = xs at *
    have HX := Lib.hid hxs
    clear hxs
    go_enter Tryd.func6, Tryd.ntmps6
    go_wp2_with fail
    refine (sWordPlaces_ok _ _ h).mono ?_
    rintro e w1 ⟨v1, rfl, o1, b1⟩
    rw [HX.out] at o1
    obtain ⟨A1, c1, rfl⟩ := o1.slice
    go_wp2_with fail
    refine (iWordPlaces_ok _ _ h (hT.below b1 hT.lt)).mono ?_
    rintro e w2 ⟨v2, rfl, o2, b2⟩
    rw [HX.out] at o2
    obtain ⟨A2, c2, rfl⟩ := o2.slice
    go_wp2_with fail
    refine (eqIntS_calls _ _ _ _ xs xs _ o2.rds (o1.below b2).rds o2.len_le o1.len_le).mono ?_
    rintro e w2' ⟨he, k, rfl⟩
    rw [eqL_refl] at he
    subst he
    have B2 := Lib.hid (below_drewN b2 k)
    go_wp2_with fail
    refine (markIntS_calls _ _ xs 1 _ _ (o2.drewN k) (by omega) (by omega) (by omega)).mono ?_
    rintro e w3 ⟨rfl, o3, g3⟩
    have k3 : Below w1.heap.size w1 w3 := B2.out.grown g3 B2.out.size (own_row_ge o2)
    go_wp2_with fail
    refine (heldIntS_calls _ _ xs.length 1 _ o3.rdsM (by omega) (by omega) (by omega)).mono ?_
    rintro e w3' ⟨rfl, rfl⟩
    have b3 := b1.trans (k3.mono b1.size)
    go_wp2_with fail
    refine (iWordPlaces_ok _ _ h (hT.below b3 hT.lt)).mono ?_
    rintro e w4 ⟨v4, rfl, o4, b4⟩
    rw [HX.out] at o4
    obtain ⟨A4, c4, rfl⟩ := o4.slice
    have k4 := k3.trans (b4.mono k3.size)
    go_wp2_with fail
    refine (eqIntS_calls _ _ _ _ xs xs _ o4.rds (o1.below k4).rds o4.len_le o1.len_le).mono ?_
    rintro e w4' ⟨he, k', rfl⟩
    rw [eqL_refl] at he
    subst he
    go_wp2_with fail
    refine (heldIntS_calls _ _ xs.length 1 _ ((o3.belowM b4).drewN k').rdsM (by omega) (by omega) (by omega)).mono ?_
    rintro e w5 ⟨rfl, rfl⟩
    go_wp2_with fail
    go_ret
    exact ⟨rfl, below_drewN (b1.trans (k4.mono b1.size)) _⟩
  · go_enter Tryd.func6, Tryd.ntmps6
    go_wp2_with fail
    refine (sWordPlaces_no _ _ h).mono ?_
    rintro e w1 ⟨v1, rfl, o1, b1⟩
    obtain ⟨A1, c1, rfl⟩ := o1.slice
    go_wp2_with fail
    refine (iWordPlaces_no _ _ h).mono ?_
    rintro e w2 ⟨rfl, rfl⟩
    go_wp2_with fail
    refine (eqIntS_calls none A1 0 c1 [] [] _ Rds.nil_ o1.rds (by simp) (by simp)).mono ?_
    rintro e w2' ⟨he, k, rfl⟩
    rw [eqL_refl] at he
    subst he
    go_wp2_with fail
    refine (markIntS_calls none 0 [] 1 0 _ (Own.nil_ _ _) (by simp) (by omega) (by omega)).mono ?_
    rintro e w3 ⟨rfl, _, g3⟩
    have k3 : Below w1.heap.size w1 w3 := (below_drewN (Below.refl _ _) k).grown g3 (Nat.le_refl _) (by intro k hk; simp [Value.ownBlock] at hk)
    simp only [List.length_nil, Int.natCast_zero, Int.add_zero]
    go_wp2_with fail
    refine (heldIntS_calls none 0 0 1 _ Rds.nil_ (by omega) (by omega) (by omega)).mono ?_
    rintro e w3' ⟨rfl, rfl⟩
    go_wp2_with fail
    refine (iWordPlaces_no _ _ h).mono ?_
    rintro e w4 ⟨rfl, rfl⟩
    go_wp2_with fail
    refine (eqIntS_calls none A1 0 c1 [] [] _ Rds.nil_ (o1.below k3).rds (by simp) (by simp)).mono ?_
    rintro e w4' ⟨he, k', rfl⟩
    rw [eqL_refl] at he
    subst he
    go_wp2_with fail
    refine (heldIntS_calls none 0 0 1 _ Rds.nil_ (by omega) (by omega) (by omega)).mono ?_
    rintro e w5 ⟨rfl, rfl⟩
    go_wp2_with fail
    go_ret
    exact ⟨rfl, below_drewN (b1.trans (k3.mono b1.size)) _⟩
theorem walk_FnExactWordRank (a0 : Int) (w : World) (w0 : (Lit.int .i64 a0).wf = true) (hT : Tab w) :
    Calls Tryd.prog 7 #[.int .i64 a0] w fun e w' => e = .returned (.bool true) ∧ Below w.heap.size w w' := by
  rcases isW_or a0 with h | h
  · go_enter Tryd.func7, Tryd.ntmps7
    go_wp2_with fail
    refine (sWordRank_ok _ _ h).mono ?_
    rintro e w1 ⟨rfl, b1⟩
    go_wp2_with fail
    refine (iWordRank_ok _ _ h (hT.below b1 hT.lt)).mono ?_
    rintro e w2 ⟨rfl, b2⟩
    go_wp2_with fail
    go_ret
    exact ⟨rfl, b1.trans (b2.mono b1.size)⟩
  · go_enter Tryd.func7, Tryd.ntmps7
    go_wp2_with fail
    refine (sWordRank_no _ _ h).mono ?_
    rintro e w1 ⟨rfl, rfl⟩
    go_wp2_with fail
    refine (iWordRank_no _ _ h).mono ?_
    rintro e w2 ⟨rfl, rfl⟩
    go_wp2_with fail
    go_ret
    exact ⟨rfl, Below.refl _ _⟩
set_option maxHeartbeats 1000000 in
theorem walk_FnWeight (a0 : Option Addr) (len0 cap0 : Nat) (z0 : List Int) (w : World) (w0 : IsRow .u8 w a0 len0 cap0 z0) (hT : Tab w) :
    Calls Tryd.prog 3 #[.slice a0 len0 cap0] w fun e w' => e = .returned (.bool true) ∧ Below w.heap.size w w' := by
  obtain ⟨bs, rfl, hr, hc, hm, hv⟩ := w0.bytes
  have hm' := hm
  unfold maxLen at hm'
  by_cases hbig : 1048576 < bs.length
  · go_enter Tryd.func3, Tryd.ntmps3
    go_wp2_with fail
    go_ret
    exact ⟨rfl, Below.refl _ _⟩
  · have hbig' : bs.length ≤ 1048576 := by omega
    go_enter Tryd.func3, Tryd.ntmps3
    go_wp2_with fail
    refine (DrawWordWeight_calls _ _ bs _ hr hc hm hv).mono ?_
    rintro e w1 ⟨a, rfl, a0, a1, b1⟩
    rcases isW_or a with h | h
    · have HX := Lib.hid (wt_other a h)
      have HL := Lib.hid (wt_plI a h.1)
      have hx1 := xorI_le a 16777215 h.2 (by omega)
      have hx0 := xorI_nonneg a 16777215
      have hwr := wt_range a
      have hwneg : decide (wt a < 0) = false := by simp; omega
      go_wp2_with fail
      refine (iWordWeight_ok _ _ h).mono ?_
      rintro e w' ⟨rfl, k, rfl⟩
      go_wp2_with fail
      refine (sWordWeight_ok _ _ h).mono ?_
      rintro e w' ⟨rfl, rfl⟩
      go_wp2_with fail
      refine (iWordPlaces_ok _ _ h ((hT.below b1 hT.lt).drewN k)).mono ?_
      rintro e w2 ⟨v, rfl, o2, b2⟩
      obtain ⟨A2, c2, rfl⟩ := o2.slice
      have b3 : Below w.heap.size w w2 := (below_drewN b1 k).trans (b2.mono b1.size)
      go_wp2_with fail
      refine (iWordAdd_ok _ _ _ h ⟨by omega, by omega⟩).mono ?_
      rintro e w' ⟨rfl, rfl⟩
      have hle : (((plI a.toNat).length : Int) == wt a) = true := by simp [HL.out]
      go_wp2_with fail
      refine (iWordWeight_ok _ _ ⟨hx0, hx1⟩).mono ?_
      rintro e w' ⟨rfl, k', rfl⟩
      rw [HX.out]
      go_wp2_with fail
      go_ret
      exact ⟨rfl, below_drewN b3 _⟩
    · go_wp2_with fail
      refine (iWordWeight_no _ _ h).mono ?_
      rintro e w' ⟨rfl, k, rfl⟩
      go_wp2_with fail
      refine (sWordWeight_no _ _ h).mono ?_
      rintro e w' ⟨rfl, rfl⟩
      go_wp2_with fail
      go_ret
      exact ⟨rfl, below_drewN b1 _⟩
set_option maxHeartbeats 1000000 in
theorem walk_FnPlaces (a0 : Option Addr) (len0 cap0 : Nat) (z0 : List Int) (w : World) (w0 : IsRow .u8 w a0 len0 cap0 z0) (hT : Tab w) :
    Calls Tryd.prog 4 #[.slice a0 len0 cap0] w fun e w' => e = .returned (.bool true) ∧ Below w.heap.size w w' := by
  obtain ⟨bs, rfl, hr, hc, hm, hv⟩ := w0.bytes
  have hm' := hm
  unfold maxLen at hm'
  by_cases hbig : 1048576 < bs.length
  · go_enter Tryd.func4, Tryd.ntmps4
    go_wp2_with fail
    go_ret
    exact ⟨rfl, Below.refl _ _⟩
  · have hbig' : bs.length ≤ 1048576 := by omega
    go_enter Tryd.func4, Tryd.ntmps4
    go_wp2_with fail
    refine (DrawWordPlaces_calls _ _ bs _ hr hc hm hv).mono ?_
    rintro e w1 ⟨a, rfl, a0, a1, b1⟩
    rcases isW_or a with h | h
    · have hlen : (plI a.toNat).length ≤ 24 := by have := pl_len a.toNat; simpa [plI] using this
      have HWO := Lib.hid (wof_plI a h)
      have HAS := Lib.hid (plI_asc a.toNat)
      generalize hxs : plI a.toNat = xs at *
      have HX := Lib.hid hxs
      clear hxs
      go_wp2_with fail
      refine (iWordPlaces_ok _ _ h (hT.below b1 hT.lt)).mono ?_
      rintro e w2 ⟨v2, rfl, o2, b2⟩
      rw [HX.out] at o2
      obtain ⟨A2, c2, rfl⟩ := o2.slice
      go_wp2_with fail
      refine (sWordPlaces_ok _ _ h).mono ?_
      rintro e w3 ⟨v3, rfl, o3, b3⟩
      rw [HX.out] at o3
      obtain ⟨A3, c3, rfl⟩ := o3.slice
      have o2' := o2.below b3
      go_wp2_with fail
      refine (sameInts_calls _ _ _ _ xs xs _ o2'.rds o3.rds o2.len_le o3.len_le).mono ?_
      rintro e w3' ⟨he, k, rfl⟩
      rw [eqL_refl] at he
      subst he
      have HR := Lib.hid o2'.rds
      have HB := Lib.hid (b1.trans ((b2.trans (b3.mono b2.size)).mono b1.size))
      clear o2 o3 o2' b1 b2 b3
      go_wp2_with fail
      go_loopw [8] (fun i wr => ∃ q : Nat, 1 ≤ q ∧ q ≤ xs.length + 1 ∧ i = .int .i64 q ∧ ∃ m, wr = w3.drewN m) (fun i _ => xs.length + 1 - (intOf i).toNat)
      case atStart => exact ⟨1, by omega, by omega, rfl, _, rfl⟩
      case round =>
        obtain ⟨q, hq1, hq2, rfl, m, rfl⟩ := hrel
        by_cases hlt : q < xs.length
        · obtain ⟨bk, o, rfl, _, c1⟩ := HR.out.at_ (j := q) hlt
          obtain ⟨bk', o', he, _, c2⟩ := HR.out.at_ (j := q - 1) (by omega)
          simp only [Option.some.injEq, Addr.mk.injEq, and_true] at he
          obtain ⟨rfl, rfl⟩ := he
          have h1 : IntKind.i64.wrap ((q : Int) - 1) = (q : Int) - 1 := by rw [IntKind.wrap_i64]; omega
          have h2 : ((q : Int) - 1).toNat = q - 1 := by omega
          have h3 : 0 ≤ (q : Int) - 1 := by omega
          have h3' : 1 ≤ (q : Int) := by omega
          have h4 := HAS.out (q - 1) (by omega)
          rw [show q - 1 + 1 = q by omega] at h4
          have h5 : decide (xs.getD q 0 ≤ xs.getD (q - 1) 0) = false := by simp only [decide_eq_false_iff_not]; omega
          generalize xs.getD q 0 = x at *
          generalize xs.getD (q - 1) 0 = y at *
          go_wp2
          go_quiet (fail)
          go_wp2
          go_roundw
          case rel => exact ⟨q + 1, by omega, by omega, by go_num, _, rfl⟩
          case measure => simp [intOf]; omega
        · go_wp2_with (go_at_call 16; refine (iWordOf_calls _ _ xs _ (HR.out.drewN _) (by unfold maxLen; omega)).mono ?_; rintro e w' ⟨he, rfl⟩; rw [HWO.out] at he; simp only [resW] at he; subst he)
          go_ret
          exact ⟨rfl, below_drewN HB.out _⟩
    · go_wp2_with fail
      refine (iWordPlaces_no _ _ h).mono ?_
      rintro e w2 ⟨rfl, rfl⟩
      go_wp2_with fail
      refine (sWordPlaces_no _ _ h).mono ?_
      rintro e w3 ⟨v3, rfl, o3, b3⟩
      obtain ⟨A3, c3, rfl⟩ := o3.slice
      go_wp2_with fail
      refine (sameInts_calls none A3 0 c3 [] [] _ Rds.nil_ o3.rds (by simp) (by simp)).mono ?_
      rintro e w3' ⟨he, k, rfl⟩
      rw [eqL_refl] at he
      subst he
      go_wp2_with fail
      refine (sameInts_calls none A3 0 c3 [] [] _ Rds.nil_ (o3.drewN k).rds (by simp) (by simp)).mono ?_
      rintro e w3' ⟨he, k', rfl⟩
      rw [eqL_refl] at he
      subst he
      go_wp2_with fail
      go_ret
      exact ⟨rfl, below_drewN (b1.trans (b3.mono b1.size)) _⟩
end Go.Proofs.YtilankmidkikjaaDoor
