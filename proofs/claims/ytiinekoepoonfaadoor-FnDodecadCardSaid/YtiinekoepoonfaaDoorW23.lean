/- The walks of promises 32, 33 and 36. -/
import Derived.Test.YtiinekoepoonfaaDoorC41
import Derived.Test.YtiinekoepoonfaaDoorC42
import Derived.Test.YtiinekoepoonfaaDoorM22
import Derived.Test.YtiinekoepoonfaaDoorM8
namespace Go.Proofs.YtiinekoepoonfaaDoor
open Go.RowKit
set_option linter.unusedVariables false
attribute [local irreducible] octS cN octF

def cO (a b : Int) : Int := ((octS.countP (oC a b) : Nat) : Int)
theorem oCount_yes {a b : Int} (ha : IsW a) (hb : IsW b) : oCount a b = (cO a b, true) := by simp [oCount, (wordB_iff a).2 ha, (wordB_iff b).2 hb, cO]
theorem oCount_no {a b : Int} (h : (wordB a && wordB b) = false) : oCount a b = (0, false) := by simp [oCount, h]
theorem cO_rng (a b : Int) : 0 ≤ cO a b ∧ cO a b ≤ 759 := by
  have := List.countP_le_length (p := oC a b) (l := octS)
  rw [octS_759] at this
  unfold cO
  omega
theorem cO_more {a b : Int} (ha : IsW a) (hb : IsW b) : cO (orI a 1) b + cO a (orI b 1) = cO a b := by
  have := count_more a b ha.1 hb.1
  unfold cO
  omega
theorem cO_all : cO 0 0 = 759 := by unfold cO; rw [count_all]; rfl
theorem orI_w {a b : Int} (ha : IsW a) (hb : IsW b) : IsW (orI a b) := ⟨orI_nonneg _ _, orI_le _ _ ha.2 hb.2⟩
theorem or_i64w {a b : Int} (ha : IsW a) (hb : IsW b) : bits .or .i64 a b = orI a b := or_i64 a b ha.1 (by have := ha.2; omega) hb.1 (by have := hb.2; omega)
def m9 : List Int := [30, 0, 448, 0, 280, 0, 0, 0, 1]
theorem oMeet_yes {a : Int} (h : oIn a = true) : oMeet a = (m9, true) := by
  obtain ⟨wa, hc, h8⟩ := oIn_w h
  obtain ⟨m, hm, e⟩ := (codeIn_iff a wa.1 wa.2).1 hc
  have := cnt9_oct a ⟨m, hm, e, h8⟩
  simp [oMeet, h, this, m9]
theorem oMeet_no {a : Int} (h : oIn a = false) : oMeet a = ([], false) := by simp [oMeet, h]
theorem own_m9 (w : World) (B : Nat) (hB : B ≤ w.heap.size) : Own (w.alloc (.cells #[.int .i64 30, .int .i64 0, .int .i64 448, .int .i64 0, .int .i64 280, .int .i64 0, .int .i64 0, .int .i64 0, .int .i64 1] 3)) B (.slice (some ⟨w.heap.size, 0, none⟩) 9 9) m9 :=
  ⟨rfl, .inr ⟨w.heap.size, 9, _, rfl, hB, heap_alloc_new w _, by decide, by unfold maxLen; omega, rfl, rfl⟩⟩
def dodY (a : Int) : Bool := cIn a && decide (wt a = 12)
theorem oDod_no {a : Int} (h : dodY a = false) : oDod a = (0, 0, false) := by
  unfold dodY at h
  unfold oDod
  rw [h]; rfl
theorem oDod_yes {a : Int} (h : dodY a = true) : ∃ d e : Int, oDod a = (d, e, true) ∧ IsW d ∧ IsW e ∧ xorI d e = a ∧ d < e ∧ oIn d = true ∧ oIn e = true ∧ wt (andI d e) = 2 := by
  have h0 := h
  unfold dodY at h
  simp only [Bool.and_eq_true, decide_eq_true_eq] at h
  obtain ⟨h1, h12⟩ := h
  have h2 := h1
  simp only [cIn, Bool.and_eq_true] at h2
  have wa : IsW a := (wordB_iff a).1 h2.1
  obtain ⟨q1, q2, _⟩ := leastD_is a wa.1 wa.2 h2.2 h12
  obtain ⟨q3, q4⟩ := leastD_lt a wa.1 wa.2 h2.2 h12
  have oi : ∀ x, IsOct x → oIn x = true := fun x hx => by
    have hr := hx.rng
    obtain ⟨m, hm, e, h8⟩ := hx
    rw [oIn_of hr, h8, (codeIn_iff x hr.1 hr.2).2 ⟨m, hm, e⟩]
    rfl
  have hs : xorI (leastD a) (xorI a (leastD a)) = a := by
    have hr := q1.rng
    generalize leastD a = d at *
    obtain ⟨A, rfl⟩ := Int.eq_ofNat_of_zero_le wa.1
    obtain ⟨D, rfl⟩ := Int.eq_ofNat_of_zero_le hr.1
    rw [xorI_nat, xorI_nat, Nat.xor_comm A D, ← Nat.xor_assoc, Nat.xor_self, Nat.zero_xor]
  refine ⟨leastD a, xorI a (leastD a), ?_, q1.rng, q4.rng, hs, q3, oi _ q1, oi _ q4, ?_⟩
  · unfold dodY at h0
    unfold oDod
    rw [h0]; rfl
  · have h3 := wt_xor_i q1.rng.1 q4.rng.1
    rw [hs, h12, q1.w8, q4.w8] at h3
    omega
set_option maxRecDepth 100000 in
set_option maxHeartbeats 4000000 in
theorem walk_FnOctadCount (a0 : Option Addr) (len0 cap0 : Nat) (z0 : List Int) (w : World) (w0 : IsRow .u8 w a0 len0 cap0 z0) (hT : Tab2 w) :
    Calls Tryd.prog 3 #[.slice a0 len0 cap0] w fun e w' => e = .returned (.bool true) ∧ Below w.heap.size w w' := by
  obtain ⟨bs, rfl, hr, hc, hm, hv⟩ := w0.bytes
  have hm' := hm
  unfold maxLen at hm'
  by_cases hbig : 1048576 < bs.length
  · go_enter Tryd.func3, Tryd.ntmps3
    go_wp2_with fail
    go_ret
    exact ⟨rfl, Below.refl _ _⟩
  have hbig' : bs.length ≤ 1048576 := by omega
  clear hbig
  go_enter Tryd.func3, Tryd.ntmps3
  go_wp2_with fail
  refine (DrawOctadCount_calls _ _ bs _ hr hc hm hv).mono ?_
  rintro e w1 ⟨a, b, rfl, b1⟩
  have B0 := Lib.hid (b1)
  rcases hb : (wordB a && wordB b) with _ | _
  · have H := Lib.hid (oCount_no hb)
    clear hb
    go_wp2_with fail
    refine (iOctadCount_calls a b _ (hT.below (B0.out) hT.lt)).mono ?_
    rintro e w1_ ⟨he, b1_⟩
    rw [H.out] at he
    dsimp only at he
    subst he
    have B1 := Lib.hid ((B0.out).trans (b1_.mono (B0.out).size))
    go_wp2_with fail
    refine (sOctadCount_calls a b _).mono ?_
    rintro e w2_ ⟨he, b2_⟩
    rw [H.out] at he
    dsimp only at he
    subst he
    have B2 := Lib.hid ((B1.out).trans (b2_.mono (B1.out).size))
    go_wp2_with fail
    go_ret
    first | exact ⟨rfl, B2.out⟩ | exact ⟨rfl, by have hB := B2.out; simp only [World.drewN_drewN] at hB; exact hB⟩
  · have hb2 : wordB a = true ∧ wordB b = true := by simpa using hb
    have wa : IsW a := (wordB_iff a).1 hb2.1
    have wb : IsW b := (wordB_iff b).1 hb2.2
    have w1' : IsW 1 := ⟨by omega, by omega⟩
    have w0' : IsW 0 := ⟨by omega, by omega⟩
    have H := Lib.hid (oCount_yes wa wb)
    have H0 := Lib.hid (show oCount 0 0 = (759, true) by rw [oCount_yes w0' w0', cO_all])
    have H1 := Lib.hid (oCount_yes (orI_w wa w1') wb)
    have H2 := Lib.hid (oCount_yes wa (orI_w wb w1'))
    have hm2 := cO_more wa wb
    have r1 := cO_rng (orI a 1) b
    have r2 := cO_rng a (orI b 1)
    have hor := or_i64w wa wb
    have hor1 := or_i64w wa w1'
    have hor2 := or_i64w wb w1'
    have hon := orI_nonneg a b
    clear hb hb2
    generalize cO a b = n at *
    generalize cO (orI a 1) b = x at *
    generalize cO a (orI b 1) = y at *
    have HM := Lib.hid hm2
    clear hm2
    go_wp2_with fail
    refine (iOctadCount_calls a b _ (hT.below (B0.out) hT.lt)).mono ?_
    rintro e w1_ ⟨he, b1_⟩
    rw [H.out] at he
    dsimp only at he
    subst he
    have B1 := Lib.hid ((B0.out).trans (b1_.mono (B0.out).size))
    go_wp2_with fail
    refine (sOctadCount_calls a b _).mono ?_
    rintro e w2_ ⟨he, b2_⟩
    rw [H.out] at he
    dsimp only at he
    subst he
    have B2 := Lib.hid ((B1.out).trans (b2_.mono (B1.out).size))
    go_wp2_with fail
    refine (iOctadCount_calls 0 0 _ (hT.below (B2.out) hT.lt)).mono ?_
    rintro e w3_ ⟨he, b3_⟩
    rw [H0.out] at he
    dsimp only at he
    subst he
    have B3 := Lib.hid ((B2.out).trans (b3_.mono (B2.out).size))
    by_cases hodd : orI a b % 2 = 1
    · have hodd1 : (orI a b % 2 == 1) = true := by simpa using hodd
      clear hodd
      go_wp2_with fail
      go_ret
      first | exact ⟨rfl, B3.out⟩ | exact ⟨rfl, by have hB := B3.out; simp only [World.drewN_drewN] at hB; exact hB⟩
    · have hodd1 : (orI a b % 2 == 1) = false := by simpa using hodd
      clear hodd
      go_wp2_with fail
      refine (iOctadCount_calls (orI a 1) b _ (hT.below (B3.out) hT.lt)).mono ?_
      rintro e w4_ ⟨he, b4_⟩
      rw [H1.out] at he
      dsimp only at he
      subst he
      have B4 := Lib.hid ((B3.out).trans (b4_.mono (B3.out).size))
      go_wp2_with fail
      refine (iOctadCount_calls a (orI b 1) _ (hT.below (B4.out) hT.lt)).mono ?_
      rintro e w5_ ⟨he, b5_⟩
      rw [H2.out] at he
      dsimp only at he
      subst he
      have B5 := Lib.hid ((B4.out).trans (b5_.mono (B4.out).size))
      have hxy : (x + y == n) = true := by simpa using HM.out
      go_wp2_with fail
      go_ret
      first | exact ⟨rfl, B5.out⟩ | exact ⟨rfl, by have hB := B5.out; simp only [World.drewN_drewN] at hB; exact hB⟩
set_option maxRecDepth 100000 in
set_option maxHeartbeats 4000000 in
theorem walk_FnOctadMeet (a0 : Option Addr) (len0 cap0 : Nat) (z0 : List Int) (w : World) (w0 : IsRow .u8 w a0 len0 cap0 z0) (hT : Tab3 w) :
    Calls Tryd.prog 4 #[.slice a0 len0 cap0] w fun e w' => e = .returned (.bool true) ∧ Below w.heap.size w w' := by
  obtain ⟨bs, rfl, hr, hc, hm, hv⟩ := w0.bytes
  have hm' := hm
  unfold maxLen at hm'
  by_cases hbig : 1048576 < bs.length
  · go_enter Tryd.func4, Tryd.ntmps4
    go_wp2_with fail
    go_ret
    exact ⟨rfl, Below.refl _ _⟩
  have hbig' : bs.length ≤ 1048576 := by omega
  clear hbig
  go_enter Tryd.func4, Tryd.ntmps4
  go_wp2_with fail
  refine (DrawOctadMeet_calls _ _ bs _ hr hc hm hv).mono ?_
  rintro e w1 ⟨a, rfl, a0, a1, b1⟩
  have B0 := Lib.hid (b1)
  rcases hb : oIn a with _ | _
  · have H := Lib.hid (oMeet_no hb)
    clear hb
    go_wp2_with fail
    refine (iOctadMeet_calls a _ (hT.below (B0.out) hT.lt)).mono ?_
    rintro e w1_ ⟨v1_, he, o1_, b1_⟩
    rw [H.out] at he o1_
    dsimp only at he o1_
    subst he
    obtain ⟨Ax, cx, rfl⟩ := o1_.slice
    have B1 := Lib.hid ((B0.out).trans (b1_.mono (B0.out).size))
    have Ox1 := Lib.hid (o1_.weak (B0.out).size)
    go_wp2_with fail
    refine (sOctadMeet_calls a _).mono ?_
    rintro e w2_ ⟨v2_, he, o2_, b2_⟩
    rw [H.out] at he o2_
    dsimp only at he o2_
    subst he
    obtain ⟨Ay, cy, rfl⟩ := o2_.slice
    have B2 := Lib.hid ((B1.out).trans (b2_.mono (B1.out).size))
    have Ox2 := Lib.hid ((Ox1.out).below b2_)
    have Oy2 := Lib.hid (o2_.weak (B1.out).size)
    go_wp2_with fail
    refine (sameInts_calls _ _ _ _ [] [] _ (Ox2.out).rds (Oy2.out).rds (Ox2.out).len_le (Oy2.out).len_le).mono ?_
    rintro e w' ⟨he, k3_, rfl⟩
    rw [eqL_refl] at he
    subst he
    have B3 := Lib.hid (below_drewN (B2.out) k3_)
    have Ox3 := Lib.hid ((Ox2.out).drewN k3_)
    have Oy3 := Lib.hid ((Oy2.out).drewN k3_)
    go_wp2_with fail
    refine (sameInts_calls _ _ _ _ [] [] _ (Ox3.out).rds (Oy3.out).rds (Ox3.out).len_le (Oy3.out).len_le).mono ?_
    rintro e w' ⟨he, k4_, rfl⟩
    rw [eqL_refl] at he
    subst he
    have B4 := Lib.hid (below_drewN (B3.out) k4_)
    have Ox4 := Lib.hid ((Ox3.out).drewN k4_)
    have Oy4 := Lib.hid ((Oy3.out).drewN k4_)
    go_wp2_with fail
    go_ret
    first | exact ⟨rfl, B4.out⟩ | exact ⟨rfl, by have hB := B4.out; simp only [World.drewN_drewN] at hB; exact hB⟩
  · have H := Lib.hid (oMeet_yes hb)
    clear hb
    obtain ⟨zs, hz, hz9⟩ : ∃ zs, m9 = zs ∧ zs.length = 9 := ⟨_, rfl, rfl⟩
    rw [hz] at H
    have HZ := Lib.hid hz
    have HZ9 := Lib.hid hz9
    clear hz hz9
    go_wp2_with fail
    refine (iOctadMeet_calls a _ (hT.below (B0.out) hT.lt)).mono ?_
    rintro e w1_ ⟨v1_, he, o1_, b1_⟩
    rw [H.out] at he o1_
    dsimp only at he o1_
    subst he
    obtain ⟨Ax, cx, rfl⟩ := o1_.slice
    have B1 := Lib.hid ((B0.out).trans (b1_.mono (B0.out).size))
    have Ox1 := Lib.hid (o1_.weak (B0.out).size)
    go_wp2_with fail
    refine (sOctadMeet_calls a _).mono ?_
    rintro e w2_ ⟨v2_, he, o2_, b2_⟩
    rw [H.out] at he o2_
    dsimp only at he o2_
    subst he
    obtain ⟨Ay, cy, rfl⟩ := o2_.slice
    have B2 := Lib.hid ((B1.out).trans (b2_.mono (B1.out).size))
    have Ox2 := Lib.hid ((Ox1.out).below b2_)
    have Oy2 := Lib.hid (o2_.weak (B1.out).size)
    go_wp2_with fail
    refine (sameInts_calls _ _ _ _ zs zs _ (Ox2.out).rds (Oy2.out).rds (Ox2.out).len_le (Oy2.out).len_le).mono ?_
    rintro e w' ⟨he, k3_, rfl⟩
    rw [eqL_refl] at he
    subst he
    have B3 := Lib.hid (below_drewN (B2.out) k3_)
    have Ox3 := Lib.hid ((Ox2.out).drewN k3_)
    have Oy3 := Lib.hid ((Oy2.out).drewN k3_)
    go_wp2_with fail
    have hM := own_m9 _ w.heap.size (B3.out).size
    refine (sameInts_calls _ _ _ _ zs m9 _ ((Ox3.out).alloc _).rds hM.rds (Ox3.out).len_le hM.len_le).mono ?_
    rintro e w' ⟨he, k9_, rfl⟩
    rw [HZ.out, eqL_refl] at he
    subst he
    go_wp2_with fail
    go_ret
    first | exact ⟨rfl, below_drewN ((B3.out).alloc (B3.out).size _) k9_⟩ | exact ⟨rfl, by have hB := below_drewN ((B3.out).alloc (B3.out).size _) k9_; simp only [World.drewN_drewN] at hB; exact hB⟩
set_option maxRecDepth 100000 in
set_option maxHeartbeats 4000000 in
theorem walk_FnDodecad (a0 : Option Addr) (len0 cap0 : Nat) (z0 : List Int) (w : World) (w0 : IsRow .u8 w a0 len0 cap0 z0) (hT : Tab3 w) :
    Calls Tryd.prog 6 #[.slice a0 len0 cap0] w fun e w' => e = .returned (.bool true) ∧ Below w.heap.size w w' := by
  obtain ⟨bs, rfl, hr, hc, hm, hv⟩ := w0.bytes
  have hm' := hm
  unfold maxLen at hm'
  by_cases hbig : 1048576 < bs.length
  · go_enter Tryd.func6, Tryd.ntmps6
    go_wp2_with fail
    go_ret
    exact ⟨rfl, Below.refl _ _⟩
  have hbig' : bs.length ≤ 1048576 := by omega
  clear hbig
  go_enter Tryd.func6, Tryd.ntmps6
  go_wp2_with fail
  refine (DrawDodecadOf_calls _ _ bs _ hr hc hm hv).mono ?_
  rintro e w1 ⟨a, rfl, a0, b1⟩
  have B0 := Lib.hid (b1)
  rcases hb : dodY a with _ | _
  · have H := Lib.hid (oDod_no hb)
    clear hb
    go_wp2_with fail
    refine (iDodecadOf_calls a _ (hT.below (B0.out) hT.lt)).mono ?_
    rintro e w1_ ⟨he, b1_⟩
    rw [H.out] at he
    dsimp only at he
    subst he
    have B1 := Lib.hid ((B0.out).trans (b1_.mono (B0.out).size))
    go_wp2_with fail
    refine (sDodecadOf_calls a _).mono ?_
    rintro e w2_ ⟨he, b2_⟩
    rw [H.out] at he
    dsimp only at he
    subst he
    have B2 := Lib.hid ((B1.out).trans (b2_.mono (B1.out).size))
    go_wp2_with fail
    go_ret
    first | exact ⟨rfl, B2.out⟩ | exact ⟨rfl, by have hB := B2.out; simp only [World.drewN_drewN] at hB; exact hB⟩
  · obtain ⟨d, f, hO, wd, wf, hs, hlt, hd, hf, h2⟩ := oDod_yes hb
    have H := Lib.hid hO
    have HS := Lib.hid hs
    have HD := Lib.hid hd
    have HF := Lib.hid hf
    have HW := Lib.hid (fun w => by have := iWordWeight_ok (andI d f) w ⟨andI_nonneg _ _, andI_le _ _ wf.2⟩; rwa [h2] at this)
    clear hb hO hs hd hf h2
    go_wp2_with fail
    refine (iDodecadOf_calls a _ (hT.below (B0.out) hT.lt)).mono ?_
    rintro e w1_ ⟨he, b1_⟩
    rw [H.out] at he
    dsimp only at he
    subst he
    have B1 := Lib.hid ((B0.out).trans (b1_.mono (B0.out).size))
    go_wp2_with fail
    refine (sDodecadOf_calls a _).mono ?_
    rintro e w2_ ⟨he, b2_⟩
    rw [H.out] at he
    dsimp only at he
    subst he
    have B2 := Lib.hid ((B1.out).trans (b2_.mono (B1.out).size))
    go_wp2_with fail
    refine (iWordAdd_ok d f _ wd wf).mono ?_
    rintro e w' ⟨he, rfl⟩
    rw [HS.out] at he
    subst he
    go_wp2_with fail
    refine (iWordMeet_ok d f _ wd wf).mono ?_
    rintro e w' ⟨rfl, rfl⟩
    go_wp2_with fail
    refine (iOctadIn_calls d _ (hT.below (B2.out) hT.lt)).mono ?_
    rintro e w3_ ⟨he, b3_⟩
    rw [HD.out] at he
    subst he
    have B3 := Lib.hid ((B2.out).trans (b3_.mono (B2.out).size))
    go_wp2_with fail
    refine (iOctadIn_calls f _ (hT.below (B3.out) hT.lt)).mono ?_
    rintro e w4_ ⟨he, b4_⟩
    rw [HF.out] at he
    subst he
    have B4 := Lib.hid ((B3.out).trans (b4_.mono (B3.out).size))
    go_wp2_with fail
    refine (HW.out _).mono ?_
    rintro e w' ⟨he, k5_, rfl⟩
    subst he
    have B5 := Lib.hid (below_drewN (B4.out) k5_)
    go_wp2_with fail
    go_ret
    first | exact ⟨rfl, B5.out⟩ | exact ⟨rfl, by have hB := B5.out; simp only [World.drewN_drewN] at hB; exact hB⟩
end Go.Proofs.YtiinekoepoonfaaDoor
