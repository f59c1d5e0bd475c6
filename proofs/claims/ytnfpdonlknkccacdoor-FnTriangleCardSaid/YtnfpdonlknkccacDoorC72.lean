/- The triangle of the program, by its exported function; empty lists of lists marked; the drawing. -/
import Derived.Test.YtnfpdonlknkccacDoorC71
import Derived.Test.YtnfpdonlknkccacDoorC42
namespace Go.Proofs.YtnfpdonlknkccacDoor
open Go.RowKit Go.Shelf
set_option linter.unusedVariables false
attribute [local irreducible] octS cN octF

theorem oIn_nat {n : Int} (h : oIn n = true) : ∃ W : Nat, n = (W : Int) ∧ W < 16777216 ∧ pop W = 8 ∧ ∃ m : Nat, m < 4096 ∧ W = cN m := by
  obtain ⟨wa, hc, w8⟩ := oIn_w h
  obtain ⟨W, rfl⟩ := Int.eq_ofNat_of_zero_le wa.1
  rw [wt_pop] at w8
  obtain ⟨m, hm, e⟩ := (codeIn_iff (W : Int) wa.1 wa.2).1 hc
  rw [codeOf_cN m hm] at e
  exact ⟨W, rfl, by have := wa.2; omega, by omega, m, hm, by omega⟩
theorem iOctadTriangle_calls (n : Int) (w : World) (hT : Tab3 w) :
    Calls Tryd.prog 9 #[.int .i64 n] w fun e w' => ∃ A c, e = .returned (.tuple #[.slice A (triA n).1.length c, .bool (triA n).2]) ∧ Own2 w' w.heap.size A (triA n).1 ∧ Below w.heap.size w w' := by
  rcases hb : oIn n with _ | _
  · rw [show triA n = ([], false) by simp [triA, hb]]
    go_enter Tryd.func9, Tryd.ntmps9
    go_wp2_with (go_at_call 29; refine (octadFrom_no _ _ hb hT).mono ?_; rintro e w1 ⟨rfl, b1⟩)
    go_ret2
    exact ⟨none, 0, rfl, .inl rfl, b1⟩
  · rw [show triA n = (triL n.toNat, true) by simp [triA, hb]]
    obtain ⟨W, rfl, hW, h8, _⟩ := oIn_nat hb
    rw [Int.toNat_natCast]
    obtain ⟨k, hk⟩ : ∃ k, k = 4096 := ⟨_, rfl⟩
    have HM := Lib.hid (fun V hV => callsIn_wide.1 (triangle_in W hW h8 k hk V hV))
    have hl := triL_len W
    have HL := Lib.hid hl
    generalize triL W = Z at *
    have H := Lib.hid hb
    clear hb h8 hl
    dsimp only
    rw [HL.out]
    go_enter Tryd.func9, Tryd.ntmps9
    go_wp2_with fail
    refine (octadFrom_yes _ _ H.out hT).mono ?_
    rintro e w1 ⟨rfl, b1⟩
    have HB1 := Lib.hid b1
    clear b1
    go_wp2_with fail
    refine (HM.out _ (hT.below HB1.out hT.lt).2).mono ?_
    rintro e w2 ⟨A, c, rfl, o2, b2⟩
    go_wp2_with fail
    go_ret2
    refine ⟨A, c, rfl, ?_, HB1.out.trans (b2.mono HB1.out.size)⟩
    rcases o2 with h0 | ⟨g, gs, cs, hA, hg, hr⟩
    · exact .inl h0
    · exact .inr ⟨g, gs, cs, hA, Nat.le_trans HB1.out.size hg, ⟨hr.1, fun i hi => ⟨(hr.2 i hi).1, (hr.2 i hi).2.1.weak HB1.out.size, (hr.2 i hi).2.2⟩⟩⟩
theorem markIntSS_none (A : Option Addr) (c : Nat) (k : Int) (w : World) :
    Calls Tryd.prog 23 #[.slice A 0 c, .int .i64 k] w fun e w' => e = .returned (.int .i64 k) ∧ w' = w := by
  go_enter Tryd.func23, Tryd.ntmps23
  go_wp2_with fail
  refine wp_loop_rounds 1 ?_
  rw [rounds_succ]
  go_wp2_with fail
  go_ret
  exact ⟨rfl, rfl⟩
theorem heldIntSS_none (A : Option Addr) (c : Nat) (k : Int) (w : World) :
    Calls Tryd.prog 24 #[.slice A 0 c, .int .i64 k] w fun e w' => e = .returned (.int .i64 k) ∧ w' = w := by
  go_enter Tryd.func24, Tryd.ntmps24
  go_wp2_with fail
  refine wp_loop_rounds 1 ?_
  rw [rounds_succ]
  go_wp2_with fail
  go_ret
  exact ⟨rfl, rfl⟩
end Go.Proofs.YtnfpdonlknkccacDoor
