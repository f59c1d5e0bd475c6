/- The walk of the exact law of OctadTriangle. -/
import Derived.Test.YtnfpdonlknkccacDoorC72
import Derived.Test.YtnfpdonlknkccacDoorW8
namespace Go.Proofs.YtnfpdonlknkccacDoor
open Go.RowKit
set_option linter.unusedVariables false
attribute [local irreducible] octS cN octF

theorem Rds2.grownB {w w' : World} {B : Nat} {A : Option Addr} {L : List (List Int)} (h : Rds2 w B A L) (hb : Below B w w') : Rds2 w' B A L := h.below hb
theorem own2_nil {w : World} {B : Nat} {A : Option Addr} : Own2 w B A [] := .inl rfl
/-- The lengths of the rows. -/
def nineN : List Nat := [1, 2, 3, 4, 5, 6, 7, 8, 9]
theorem nine_at (i : Nat) (h : i < 9) : nineN.getD i 0 = i + 1 := by
  have : ∀ i : Fin 9, nineN.getD i.val 0 = i.val + 1 := by decide
  exact this ⟨i, h⟩
theorem triL_lens (W i : Nat) (h : i < 9) : ((triL W).getD i []).length = nineN.getD i 0 := by
  rw [← triL_at W i h, triR_len]
  have : ∀ i : Fin 9, i.val + 1 = nineN.getD i.val 0 := by decide
  exact this ⟨i, h⟩
theorem marks_rds {w : World} {B g c : Nat} {gs cs : Nat → Nat} {f : Nat → List Int} (h : Rows2 w B g 9 gs cs (fun i => if i < 9 then marks (1 + (totTo nineN i : Nat)) (nineN.getD i 0) else f i)) : Rds2 w w.heap.size (some ⟨g, 0, none⟩) (marks2 1 nineN) := by
  intro j hj
  rw [marks2_len] at hj
  have hj9 : j < 9 := hj
  obtain ⟨h1, h2, _⟩ := h.2 j hj9
  dsimp only at h1 h2
  rw [if_pos hj9] at h1 h2
  rw [marks2_at 1 nineN j hj]
  exact ⟨g, 0, _, _, rfl, h.1, by rw [Nat.zero_add]; exact h1, h2.rds, h2.len_le⟩
theorem Rows2.weak {w : World} {B B' g n : Nat} {gs cs : Nat → Nat} {f : Nat → List Int} (h : Rows2 w B g n gs cs f) (hB : B' ≤ B) : Rows2 w B' g n gs cs f :=
  ⟨h.1, fun i hi => ⟨(h.2 i hi).1, (h.2 i hi).2.1.weak hB, (h.2 i hi).2.2⟩⟩
theorem Rows2.rds {w : World} {B g n : Nat} {gs cs : Nat → Nat} {L : List (List Int)} (h : Rows2 w B g L.length gs cs (fun i => L.getD i [])) : Rds2 w w.heap.size (some ⟨g, 0, none⟩) L := by
  intro j hj
  obtain ⟨h1, h2, _⟩ := h.2 j hj
  exact ⟨g, 0, _, _, rfl, h.1, by rw [Nat.zero_add]; exact h1, h2.rds, h2.len_le⟩
set_option maxHeartbeats 2000000 in
theorem walk_FnExactOctadTriangle (a0 : Int) (w : World) (_ : (Lit.int .i64 a0).wf = true) (hT : Tab3 w) :
    Calls Tryd.prog 6 #[.int .i64 a0] w fun e w' => e = .returned (.bool true) ∧ Below w.heap.size w w' := by
  rcases hb : oIn a0 with _ | _
  · have HE := Lib.hid (show triA a0 = ([], false) by simp [triA, hb])
    clear hb
    go_enter Tryd.func6, Tryd.ntmps6
    go_wp2_with fail
    refine (sOctadTriangle_calls _ _).mono ?_
    rintro e w1 ⟨A1, c1, he, _, b1⟩
    rw [HE.out] at he
    dsimp only [List.length_nil] at he
    subst he
    go_wp2_with fail
    refine (iOctadTriangle_calls _ _ (hT.below b1 hT.lt)).mono ?_
    rintro e w2 ⟨A2, c2, he, _, b2⟩
    rw [HE.out] at he
    dsimp only [List.length_nil] at he
    subst he
    have B2 := Lib.hid (b1.trans (b2.mono b1.size))
    clear b1 b2
    go_wp2_with fail
    refine (eqIntSS_yes A2 A1 c2 c1 [] _ Rds2.nil_ Rds2.nil_ (by decide)).mono ?_
    rintro e w3 ⟨rfl, k3, rfl⟩
    go_wp2_with fail
    refine (markIntSS_none A2 c2 1 _).mono ?_
    rintro e w3 ⟨rfl, rfl⟩
    go_wp2_with fail
    refine (heldIntSS_none A2 c2 1 _).mono ?_
    rintro e w3 ⟨rfl, rfl⟩
    have B3 := Lib.hid (below_drewN B2.out k3)
    go_wp2_with fail
    refine (iOctadTriangle_calls _ _ (hT.below B3.out hT.lt)).mono ?_
    rintro e w4 ⟨A4, c4, he, _, b4⟩
    rw [HE.out] at he
    dsimp only [List.length_nil] at he
    subst he
    have B4 := Lib.hid (B3.out.trans (b4.mono B3.out.size))
    clear b4
    go_wp2_with fail
    refine (eqIntSS_yes A4 A1 c4 c1 [] _ Rds2.nil_ Rds2.nil_ (by decide)).mono ?_
    rintro e w5 ⟨rfl, k5, rfl⟩
    go_wp2_with fail
    refine (heldIntSS_none A2 c2 1 _).mono ?_
    rintro e w5 ⟨rfl, rfl⟩
    go_wp2_with fail
    go_ret
    exact ⟨rfl, below_drewN B4.out k5⟩
  · have HE := Lib.hid (show triA a0 = (triL a0.toNat, true) by simp [triA, hb])
    clear hb
    have HLN := Lib.hid (fun i h => triL_lens a0.toNat i h)
    have hl9 := triL_len a0.toNat
    generalize triL a0.toNat = L at *
    have HL9 := Lib.hid hl9
    clear hl9
    go_enter Tryd.func6, Tryd.ntmps6
    go_wp2_with fail
    refine (sOctadTriangle_calls _ _).mono ?_
    rintro e w1 ⟨A1, c1, he, o1, b1⟩
    rw [HE.out] at he o1
    dsimp only at he o1
    rw [HL9.out] at he
    subst he
    have R1 := Lib.hid o1.rds
    have B1 := Lib.hid b1
    clear b1 o1
    go_wp2_with fail
    refine (iOctadTriangle_calls _ _ (hT.below B1.out hT.lt)).mono ?_
    rintro e w2 ⟨A2, c2, he, o2, b2⟩
    rw [HE.out] at he o2
    dsimp only at he o2
    rw [HL9.out] at he
    subst he
    have R1b := Lib.hid (R1.out.below b2)
    have B2 := Lib.hid (B1.out.trans (b2.mono B1.out.size))
    have hs2 := b2.size
    have R2 := Lib.hid o2.rds
    have ho2 := o2
    clear b2 R1 o2
    obtain ⟨g, gs, cs, rfl, hg, hr⟩ : ∃ (g : Nat) (gs cs : Nat → Nat), A2 = some ⟨g, 0, none⟩ ∧ w1.heap.size ≤ g ∧ Rows2 w2 w1.heap.size g L.length gs cs (fun i => L.getD i []) := by
      rcases ho2 with h0 | ⟨g, gs, cs, h1, h2, h3⟩
      · have := HL9.out; rw [h0] at this; simp at this
      · exact ⟨g, gs, cs, h1, h2, h3⟩
    have HR := Lib.hid hr
    clear hr ho2
    go_wp2_with fail
    have HEQ := eqIntSS_yes (some ⟨g, 0, none⟩) A1 c2 c1 L w2 R2.out (R1b.out.more hs2) (by rw [HL9.out]; decide)
    rw [HL9.out] at HEQ
    refine HEQ.mono ?_
    rintro e w3 ⟨rfl, k3, rfl⟩
    clear HEQ
    go_wp2_with fail
    refine (markIntSS_calls g c2 9 gs cs (fun i => L.getD i []) nineN 1 w1.heap.size (w2.drewN k3) (by have := HR.out; rw [HL9.out] at this; exact this) hs2 rfl (fun i hi => HLN.out i hi) (by omega) (by decide) (by omega) (by omega)).mono ?_
    rintro e w4 ⟨rfl, r4, b4⟩
    have MR := Lib.hid (marks_rds (c := c2) r4)
    have R14 := Lib.hid ((R1b.out.drewN k3).below b4)
    have hs4 := b4.size
    have hs4' : w2.heap.size ≤ w4.heap.size := hs4
    have B4 := Lib.hid ((below_drewN B2.out k3).trans (b4.mono B1.out.size))
    clear b4 r4
    have ht : 1 + ((totTo nineN 9 : Nat) : Int) = 46 := by decide
    rw [ht]
    go_wp2_with fail
    refine (heldIntSS_calls (some ⟨g, 0, none⟩) c2 nineN 1 _ MR.out (by decide) (by decide) (by omega) (by omega)).mono ?_
    rintro e w5 ⟨rfl, rfl⟩
    rw [show 1 + ((totTo nineN nineN.length : Nat) : Int) = 46 by decide]
    go_wp2_with fail
    refine (iOctadTriangle_calls _ _ (hT.below B4.out hT.lt)).mono ?_
    rintro e w6 ⟨A6, c6, he, o6, b6⟩
    rw [HE.out] at he o6
    dsimp only at he o6
    rw [HL9.out] at he
    subst he
    have B6 := Lib.hid (B4.out.trans (b6.mono B4.out.size))
    have R16 := Lib.hid ((R14.out.more (Nat.le_trans hs2 hs4')).below b6)
    have MR6 := Lib.hid ((MR.out.below b6).more b6.size)
    have hs6 := b6.size
    have R6 := Lib.hid o6.rds
    clear b6 o6
    go_wp2_with fail
    have HEQ := eqIntSS_yes A6 A1 c6 c1 L w6 R6.out (R16.out.more hs6) (by rw [HL9.out]; decide)
    rw [HL9.out] at HEQ
    refine HEQ.mono ?_
    rintro e w7 ⟨rfl, k7, rfl⟩
    clear HEQ
    go_wp2_with fail
    refine (heldIntSS_calls (some ⟨g, 0, none⟩) c2 nineN 1 _ (MR6.out.drewN k7) (by decide) (by decide) (by omega) (by omega)).mono ?_
    rintro e w8 ⟨rfl, rfl⟩
    rw [show 1 + ((totTo nineN nineN.length : Nat) : Int) = 46 by decide]
    go_wp2_with fail
    go_ret
    exact ⟨rfl, below_drewN B6.out k7⟩
end Go.Proofs.YtnfpdonlknkccacDoor
