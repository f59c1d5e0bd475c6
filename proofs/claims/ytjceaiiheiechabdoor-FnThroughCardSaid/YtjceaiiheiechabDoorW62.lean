/- The walks of promises 29 and 30, and of the exact law of OctadThrough. -/
import Derived.Test.YtjceaiiheiechabDoorC42
import Derived.Test.YtjceaiiheiechabDoorQ7
import Derived.Test.YtjceaiiheiechabDoorQ8
import Derived.Test.YtjceaiiheiechabDoorM25
import Derived.Test.YtjceaiiheiechabDoorC41
import Derived.Test.YtjceaiiheiechabDoorQ3
import Derived.Test.YtjceaiiheiechabDoorW8
namespace Go.Proofs.YtjceaiiheiechabDoor
open Go.RowKit
set_option linter.unusedVariables false
attribute [local irreducible] cN syn octS octF

theorem codeInB_synT (v : Nat) (hv : v < 16777216) : codeInB (v : Int) = (syn v == 0) := by
  rw [Bool.eq_iff_iff, codeIn_iff (v : Int) (by omega) (by omega), beq_iff_eq]
  constructor
  · rintro ⟨m, hm, e⟩
    rw [codeOf_cN m hm] at e
    have : v = cN m := by omega
    rw [this]; exact syn_cN m
  · intro h
    refine ⟨lin gM v, msg_lt v, ?_⟩
    rw [codeOf_cN _ (msg_lt v), ← in_code v hv h]
theorem oct_inT {x : Int} (h : IsOct x) : oIn x = true := by
  have hr := h.rng
  obtain ⟨m, hm, e, h8⟩ := h
  unfold oIn cIn
  have hw : wordB x = true := (wordB_iff _).2 ⟨hr.1, hr.2⟩
  have hc : codeInB x = true := by
    obtain ⟨R, rfl⟩ := Int.eq_ofNat_of_zero_le hr.1
    rw [codeInB_synT R (by omega)]
    rw [codeOf_cN m hm] at e
    have : R = cN m := by omega
    rw [this]
    have := syn_cN m
    simp [this]
  rw [hw, hc, h8]; rfl
theorem in_octT {x : Int} (h : oIn x = true) : IsOct x := by
  obtain ⟨hw, hc, h8⟩ := oIn_w h
  obtain ⟨m0, m1, e⟩ := message_ok x hw.1 hw.2 hc
  refine ⟨(messageOf x).toNat, by omega, ?_, h8⟩
  rw [show (((messageOf x).toNat : Nat) : Int) = messageOf x by omega]
  exact e
/-- Any five places of an octad tell it. -/
theorem thr_subT {W T : Nat} (hW : oIn (W : Int) = true) (hT : T < 16777216) (hs : W &&& T = T) (h5 : (plI T).length = 5) : oThrough (plI T) = ((W : Int), true) := by
  have hwt := wt_plI (T : Int) (by omega)
  rw [Int.toNat_natCast, h5] at hwt
  have hwo := wof_plI (T : Int) ⟨by omega, by omega⟩
  rw [Int.toNat_natCast] at hwo
  have h1 := oWith_five (t := (T : Int)) ⟨by omega, by omega⟩ hwt.symm
  have hm : (W : Int) ∈ oWith (T : Int) := oWith_mem.2 ⟨in_octT hW, by rw [andI_natP, hs]⟩
  have e : oThrough (plI T) = ((oWith (T : Int)).getD 0 0, true) := by simp [oThrough, hwo, h5]
  rw [e]
  match hL : oWith (T : Int), h1, hm with
  | [o], _, hm =>
    rw [List.mem_singleton] at hm
    rw [hm]
    rfl
theorem octad_five {a : Int} (h : oIn a = true) : ∃ z0 z1 z2 z3 z4 z5 z6 z7 : Int, plI a.toNat = [z0, z1, z2, z3, z4, z5, z6, z7] ∧ IsW a ∧ oThrough [z0, z1, z2, z3, z4] = (a, true) ∧ oThrough [z3, z4, z5, z6, z7] = (a, true) := by
  obtain ⟨hw, hc, h8⟩ := oIn_w h
  obtain ⟨W, rfl⟩ := Int.eq_ofNat_of_zero_le hw.1
  have hW : W < 16777216 := by have := hw.2; omega
  have hl := wt_plI (W : Int) hw.1
  rw [Int.toNat_natCast, h8] at hl
  have hl8 : (plI W).length = 8 := by omega
  obtain ⟨z0, z1, z2, z3, z4, z5, z6, z7, hz⟩ : ∃ z0 z1 z2 z3 z4 z5 z6 z7 : Int, plI W = [z0, z1, z2, z3, z4, z5, z6, z7] := by
    match plI W, hl8 with
    | [z0, z1, z2, z3, z4, z5, z6, z7], _ => exact ⟨z0, z1, z2, z3, z4, z5, z6, z7, rfl⟩
  have e1 : plI (firstW W 5) = [z0, z1, z2, z3, z4] := by
    unfold plI at hz ⊢
    rw [pl_firstW W 5 hW, List.map_take, hz]; rfl
  have e2 : plI (dropW W 3) = [z3, z4, z5, z6, z7] := by
    unfold plI at hz ⊢
    rw [pl_dropW W hW 3, List.map_drop, hz]; rfl
  have s1 : W &&& firstW W 5 = firstW W 5 := by
    unfold firstW
    rw [Nat.and_xor_distrib_left, Nat.and_self, dropW_in]
  have t1 := thr_subT (T := firstW W 5) h (by unfold firstW; exact Nat.xor_lt_two_pow (n := 24) hW (dropW_lt W hW 5)) s1 (by rw [e1]; rfl)
  have t2 := thr_subT (T := dropW W 3) h (dropW_lt W hW 3) (dropW_in W 3) (by rw [e2]; rfl)
  rw [e1] at t1
  rw [e2] at t2
  rw [Int.toNat_natCast]
  exact ⟨z0, z1, z2, z3, z4, z5, z6, z7, hz, hw, t1, t2⟩
theorem through_facts {xs : List Int} {o : Int} (h : oThrough xs = (o, true)) : ∃ t, wof xs = some t ∧ IsW t ∧ IsW o ∧ andI o t = t ∧ oCount t 0 = (1, true) ∧ oIn o = true ∧ xs.length = 5 := by
  unfold oThrough at h
  rcases hf : wof xs with _ | t
  · rw [hf] at h; cases h
  · rw [hf] at h
    by_cases h5 : xs.length = 5
    · simp only [h5, if_true] at h
      obtain ⟨hw, ht⟩ := wof_is hf
      have h1 := oWith_five hw (by omega)
      have ho : (oWith t).getD 0 0 = o := by cases h; rfl
      have hm : o ∈ oWith t := by
        rw [← ho, ← getD_at (oWith t) 0 (by omega)]
        exact List.getElem_mem _
      obtain ⟨hx, ha⟩ := oWith_mem.1 hm
      refine ⟨t, rfl, hw, hx.rng, ha, ?_, oct_inT hx, h5⟩
      have hb : wordB t = true := (wordB_iff t).2 hw
      have hz : wordB 0 = true := (wordB_iff 0).2 ⟨by omega, by omega⟩
      unfold oCount
      rw [hb, hz]
      have hc : octS.countP (oC t 0) = 1 := by
        rw [← h1, oWith, List.countP_eq_length_filter]
        congr 1
        refine List.filter_congr fun x _ => ?_
        unfold oC
        have : andI x 0 = 0 := by unfold andI; simp
        rw [this]; simp
      rw [hc]; rfl
    · simp only [h5, if_false] at h
      cases h
theorem five_max (z0 z1 z2 z3 z4 : Int) : [z0, z1, z2, z3, z4].length ≤ maxLen := by
  show 5 ≤ maxLen
  unfold maxLen
  omega
theorem thr_first (g n c : Nat) (hn : n = 5) (z0 z1 z2 z3 z4 z5 z6 z7 : Int) (w : World) (ha : Rds w w.heap.size .i64 (some ⟨g, 0, none⟩) [z0, z1, z2, z3, z4, z5, z6, z7]) (hTb : TabB w) (hT2 : Tab2 w) :
    Calls Tryd.prog 6 #[.slice (some ⟨g, 0, none⟩) n c] w fun e w' => e = .returned (.tuple #[.int .i64 (oThrough [z0, z1, z2, z3, z4]).1, .bool (oThrough [z0, z1, z2, z3, z4]).2]) ∧ Below w.heap.size w w' := by
  subst hn
  exact iOctadThrough_calls _ c [z0, z1, z2, z3, z4] w (ha.take 5) (five_max z0 z1 z2 z3 z4) hTb hT2
theorem rds_drop3 {w : World} {B g : Nat} {z0 z1 z2 : Int} {zs : List Int} (h : Rds w B .i64 (some ⟨g, 0, none⟩) (z0 :: z1 :: z2 :: zs)) : Rds w B .i64 (some ⟨g, 3, none⟩) zs := by
  rcases h with h | ⟨b, o, h1, h2, h3⟩
  · cases h
  · cases h1
    refine .inr ⟨g, 3, rfl, h2, fun j hj => ?_⟩
    have := h3 (j + 3) (by simp; omega)
    rw [show 0 + (j + 3) = 3 + j by omega] at this
    simpa using this
theorem thr_last (g n c : Nat) (hn : n = 5) (z0 z1 z2 z3 z4 z5 z6 z7 : Int) (w : World) (ha : Rds w w.heap.size .i64 (some ⟨g, 0, none⟩) [z0, z1, z2, z3, z4, z5, z6, z7]) (hTb : TabB w) (hT2 : Tab2 w) :
    Calls Tryd.prog 6 #[.slice (some ⟨g, 3, none⟩) n c] w fun e w' => e = .returned (.tuple #[.int .i64 (oThrough [z3, z4, z5, z6, z7]).1, .bool (oThrough [z3, z4, z5, z6, z7]).2]) ∧ Below w.heap.size w w' := by
  subst hn
  exact iOctadThrough_calls _ c [z3, z4, z5, z6, z7] w (rds_drop3 ha) (five_max z3 z4 z5 z6 z7) hTb hT2
theorem thr_no {xs : List Int} {o : Int} (h : oThrough xs = (o, false)) : o = 0 := by
  unfold oThrough at h
  rcases hf : wof xs with _ | t
  · rw [hf] at h; cases h; rfl
  · rw [hf] at h
    by_cases h5 : xs.length = 5
    · simp only [h5, if_true] at h; cases h
    · simp only [h5, if_false] at h; cases h; rfl
set_option maxHeartbeats 2000000 in
theorem walk_FnExactOctadThrough (a0 : Option Addr) (len0 cap0 : Nat) (z0 : List Int) (w : World) (w0 : IsRow .i64 w a0 len0 cap0 z0) (hT : Tab3 w) :
    Calls Tryd.prog 4 #[.slice a0 len0 cap0] w fun e w' => e = .returned (.bool true) ∧ Below w.heap.size w w' := by
  obtain ⟨hr0, hl0, _⟩ := w0.rds
  generalize z0.take len0 = x0 at *
  subst hl0
  by_cases hbig0 : 1048576 < x0.length
  · go_enter Tryd.func4, Tryd.ntmps4
    go_wp2_with fail
    go_ret
    exact ⟨rfl, Below.refl _ _⟩
  have hs0 : x0.length ≤ 1048576 := by omega
  have hm0 : x0.length ≤ maxLen := by unfold maxLen; omega
  clear hbig0
  rcases hf : oThrough x0 with ⟨y, b⟩
  have HF := Lib.hid hf
  clear hf
  have HM0 := Lib.hid hm0
  clear hm0
  all_goals rcases b with _ | _
  all_goals
    go_enter Tryd.func4, Tryd.ntmps4
    go_wp2_with fail
    refine (toIntS_calls _ _ x0 _ ((hr0.below (Below.refl w.heap.size w)).more (Below.refl w.heap.size w).size) hs0).mono ?_
    rintro e ws0 ⟨vs0, rfl, os0, bs0⟩
    have B0 := Lib.hid ((Below.refl w.heap.size w).trans (bs0.mono (Below.refl w.heap.size w).size))
    obtain ⟨As0, cs0, rfl⟩ := os0.slice
    have ts0 := own_span os0
    have sbs0 := bs0.size
    go_wp2_with fail
    refine (sOctadThrough_calls _ _ x0 _ os0.rds HM0.out).mono ?_
    rintro e wS ⟨he, bS⟩
    rw [HF.out] at he
    dsimp only at he
    subst he
    have B1 := Lib.hid ((B0.out).trans (bS.mono (B0.out).size))
    have os0_1 := os0.below bS
    have sbS := bS.size
    go_wp2_with fail
    refine (toIntS_calls _ _ x0 _ ((hr0.below (B1.out)).more (B1.out).size) hs0).mono ?_
    rintro e wp0 ⟨vp0, rfl, op0, bp0⟩
    have B2 := Lib.hid ((B1.out).trans (bp0.mono (B1.out).size))
    obtain ⟨Ap0, cp0, rfl⟩ := op0.slice
    have tp0 := own_span op0
    have sbp0 := bp0.size
    go_wp2_with fail
    refine (iOctadThrough_calls _ _ x0 _ op0.rds HM0.out (hT.below (B2.out) hT.lt).1 (hT.below (B2.out) hT.lt).2).mono ?_
    rintro e wG ⟨he, bG⟩
    rw [HF.out] at he
    dsimp only at he
    subst he
    have B3 := Lib.hid ((B2.out).trans (bG.mono (B2.out).size))
    have op0_3 := op0.below bG
    have sbG := bG.size
    go_wp2_with fail
    refine (toIntS_calls _ _ x0 _ ((hr0.below (B3.out)).more (B3.out).size) hs0).mono ?_
    rintro e wq0 ⟨vq0, rfl, oq0, bq0⟩
    have B4 := Lib.hid ((B3.out).trans (bq0.mono (B3.out).size))
    have op0_4 := op0_3.below bq0
    obtain ⟨Aq0, cq0, rfl⟩ := oq0.slice
    have tq0 := own_span oq0
    have sbq0 := bq0.size
    go_wp2_with fail
    refine (eqIntS_calls _ _ _ _ x0 x0 _ op0_4.rds oq0.rds op0_4.len_le oq0.len_le).mono ?_
    rintro e w' ⟨he, k1, rfl⟩
    rw [eqL_refl] at he
    subst he
    have B5 := Lib.hid (below_drewN (B4.out) k1)
    go_wp2_with fail
    go_ret
    exact ⟨rfl, B5.out⟩
theorem DrawOctadThrough_calls (A : Option Addr) (c : Nat) (bs : List Int) (w : World) (hr : Rds w w.heap.size .u8 A bs) (hc : bs.length ≤ c) (hm : c ≤ maxLen) (hv : ∀ i, 0 ≤ bs.getD i 0 ∧ bs.getD i 0 ≤ 255) :
    Calls Tryd.prog 5 #[.slice A bs.length c] w fun e w' => ∃ (v : Value) (xs : List Int), e = .returned v ∧ Own w' w.heap.size v xs ∧ xs.length ≤ 6 ∧ Below w.heap.size w w' := by
  go_enter Tryd.func5, Tryd.ntmps5
  go_wp2_with fail
  refine (l6Open_calls A c bs _ hr hc hm hv).mono ?_
  rintro e w1 ⟨g, rfl, hg, r1, b1⟩
  go_wp2_with fail
  refine (pick_calls g 0 12 _ r1 (by omega) (by omega) (by omega)).mono ?_
  rintro e w2 ⟨n, rfl, n0, n1, r2, g2⟩
  go_wp2_with fail
  refine (l91Places_calls g _ (5 + n / 11) _ r2 (by omega) (by omega) (by omega)).mono ?_
  rintro e w3 ⟨v, xs, q', rfl, o3, hl, _, _, r3, g3⟩
  go_wp2_with fail
  go_ret
  exact ⟨v, xs, rfl, o3.weak (Nat.le_trans b1.size g2.size), by omega, b1.trans ((grown_below g2 hg b1.size).trans (grown_below g3 hg (Nat.le_trans b1.size g2.size)))⟩
theorem wordOf_yes (A : Option Addr) (c : Nat) (xs : List Int) (t : Int) (w : World) (ha : Rds w w.heap.size .i64 A xs) (hx : xs.length ≤ maxLen) (ht : wof xs = some t) :
    Calls Tryd.prog 8 #[.slice A xs.length c] w fun e w' => e = .returned (.tuple #[.int .i64 t, .bool true]) ∧ w = w' := by
  have h := iWordOf_calls A c xs w ha hx
  rw [ht] at h
  exact h
set_option maxHeartbeats 4000000 in
theorem walk_FnThrough (a0 : Option Addr) (len0 cap0 : Nat) (z0 : List Int) (w : World) (w0 : IsRow .u8 w a0 len0 cap0 z0) (hT : Tab3 w) :
    Calls Tryd.prog 3 #[.slice a0 len0 cap0] w fun e w' => e = .returned (.bool true) ∧ Below w.heap.size w w' := by
  obtain ⟨bs, rfl, hr, hc, hm, hv⟩ := w0.bytes
  have hm' := hm
  unfold maxLen at hm'
  by_cases hbig : 1048576 < bs.length
  · go_enter Tryd.func3, Tryd.ntmps3
    go_wp2_with fail
    go_ret
    exact ⟨rfl, Below.refl _ _⟩
  have hbig' : bs.length ≤ 1048576 := by omega
  clear hbig
  go_enter Tryd.func3, Tryd.ntmps3
  go_wp2_with fail
  refine (DrawOctadThrough_calls _ _ bs _ hr hc hm hv).mono ?_
  rintro e w1 ⟨v, xs, rfl, o1, hl, b1⟩
  obtain ⟨Aa, ca, rfl⟩ := o1.slice
  have B0 := Lib.hid (b1)
  have Oa0 := Lib.hid (o1)
  rcases hb : oThrough xs with ⟨o, _ | _⟩
  · obtain rfl := thr_no hb
    have H := Lib.hid hb
    clear hb
    go_wp2_with fail
    refine (iOctadThrough_calls Aa ca xs _ (Oa0.out).rds (Oa0.out).len_le (hT.below (B0.out) hT.lt).1 (hT.below (B0.out) hT.lt).2).mono ?_
    rintro e w1_ ⟨he, b1_⟩
    rw [H.out] at he
    dsimp only at he
    subst he
    have B1 := Lib.hid ((B0.out).trans (b1_.mono (B0.out).size))
    have Oa1 := Lib.hid ((Oa0.out).below b1_)
    go_wp2_with fail
    refine (sOctadThrough_calls Aa ca xs _ (Oa1.out).rds (Oa1.out).len_le).mono ?_
    rintro e w2_ ⟨he, b2_⟩
    rw [H.out] at he
    dsimp only at he
    subst he
    have B2 := Lib.hid ((B1.out).trans (b2_.mono (B1.out).size))
    have Oa2 := Lib.hid ((Oa1.out).below b2_)
    go_wp2_with fail
    go_ret
    first | exact ⟨rfl, B2.out⟩ | exact ⟨rfl, by have hB := B2.out; simp only [World.drewN_drewN] at hB; exact hB⟩
  · obtain ⟨t, f1, ht, ho, f2, f3, f4, h5⟩ := through_facts hb
    have H := Lib.hid hb
    have F1 := Lib.hid f1
    have F2 := Lib.hid f2
    have F3 := Lib.hid f3
    have F4 := Lib.hid f4
    have HT5 := Lib.hid ht
    have HO5 := Lib.hid ho
    clear hb f1 f2 f3 f4 ht ho h5
    go_wp2_with fail
    refine (iOctadThrough_calls Aa ca xs _ (Oa0.out).rds (Oa0.out).len_le (hT.below (B0.out) hT.lt).1 (hT.below (B0.out) hT.lt).2).mono ?_
    rintro e w1_ ⟨he, b1_⟩
    rw [H.out] at he
    dsimp only at he
    subst he
    have B1 := Lib.hid ((B0.out).trans (b1_.mono (B0.out).size))
    have Oa1 := Lib.hid ((Oa0.out).below b1_)
    go_wp2_with fail
    refine (sOctadThrough_calls Aa ca xs _ (Oa1.out).rds (Oa1.out).len_le).mono ?_
    rintro e w2_ ⟨he, b2_⟩
    rw [H.out] at he
    dsimp only at he
    subst he
    have B2 := Lib.hid ((B1.out).trans (b2_.mono (B1.out).size))
    have Oa2 := Lib.hid ((Oa1.out).below b2_)
    go_wp2_with fail
    refine (wordOf_yes Aa ca xs t _ (Oa2.out).rds (Oa2.out).len_le F1.out).mono ?_
    rintro e w' ⟨he, rfl⟩
    subst he
    go_wp2_with fail
    refine (iWordMeet_ok o t _ HO5.out HT5.out).mono ?_
    rintro e w' ⟨he, rfl⟩
    rw [F2.out] at he
    subst he
    go_wp2_with fail
    refine (iOctadCount_calls t 0 _ (hT.below (B2.out) hT.lt).2).mono ?_
    rintro e w5_ ⟨he, b5_⟩
    rw [F3.out] at he
    dsimp only at he
    subst he
    have B3 := Lib.hid ((B2.out).trans (b5_.mono (B2.out).size))
    have Oa3 := Lib.hid ((Oa2.out).below b5_)
    go_wp2_with fail
    refine (iOctadIn_calls o _ (hT.below (B3.out) hT.lt)).mono ?_
    rintro e w6_ ⟨he, b6_⟩
    rw [F4.out] at he
    subst he
    have B4 := Lib.hid ((B3.out).trans (b6_.mono (B3.out).size))
    have Oa4 := Lib.hid ((Oa3.out).below b6_)
    go_wp2_with fail
    go_ret
    first | exact ⟨rfl, B4.out⟩ | exact ⟨rfl, by have hB := B4.out; simp only [World.drewN_drewN] at hB; exact hB⟩
end Go.Proofs.YtjceaiiheiechabDoor
