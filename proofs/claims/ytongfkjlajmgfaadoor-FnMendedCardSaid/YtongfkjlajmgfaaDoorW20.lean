/- The walk of promise 27. -/
import Derived.Test.YtongfkjlajmgfaaDoorW18
import Derived.Test.YtongfkjlajmgfaaDoorC26
namespace Go.Proofs.YtongfkjlajmgfaaDoor
open Go.RowKit
set_option linter.unusedVariables false

theorem cOf_yes2 {m : Int} (h : 0 ≤ m ∧ m ≤ 4095) : cOf m = (codeOf m, true) := by simp [cOf, (msgB_iff m).2 h]
theorem pow24 : ∀ k : Fin 24, (0 : Int) ≤ 2 ^ k.val ∧ (2 : Int) ^ k.val ≤ 8388608 := by decide
theorem xorI_assoc3 (y a b c : Int) : xorI (xorI (xorI y a) b) c = xorI y (xorI (xorI a b) c) := by
  unfold xorI
  simp only [Int.toNat_natCast, Nat.xor_assoc]
/-- A word of the code with three wrong places, as the law makes it. -/
theorem mend_three (m : Nat) (hm : m < 4096) (i j k : Nat) (hi : i < 24) (hj : j < 24) (hk : k < 24) :
    cMend (bits .xor .i64 (bits .xor .i64 (bits .xor .i64 (codeOf m) (wrap64 (2 ^ i))) (wrap64 (2 ^ j))) (wrap64 (2 ^ k))) = (codeOf m, true) := by
  have pi := pow24 ⟨i, hi⟩
  have pj := pow24 ⟨j, hj⟩
  have pk := pow24 ⟨k, hk⟩
  have wi := wt_pow i hi
  have wj := wt_pow j hj
  have wk := wt_pow k hk
  simp only [] at pi pj pk
  generalize (2 : Int) ^ i = A at *
  generalize (2 : Int) ^ j = B at *
  generalize (2 : Int) ^ k = C at *
  rw [IntWalk.wrap64_in A (by omega), IntWalk.wrap64_in B (by omega), IntWalk.wrap64_in C (by omega)]
  have hc := codeOf_w2 (m : Int)
  have w1 : IsW (xorI (codeOf m) A) := xorI_w2 hc ⟨pi.1, by omega⟩
  have w2 : IsW (xorI (xorI (codeOf m) A) B) := xorI_w2 w1 ⟨pj.1, by omega⟩
  have we : IsW (xorI (xorI A B) C) := xorI_w2 (xorI_w2 ⟨pi.1, by omega⟩ ⟨pj.1, by omega⟩) ⟨pk.1, by omega⟩
  have hcc := hc.1
  have hcd := hc.2
  have w11 := w1.1
  have w12 := w1.2
  have w21 := w2.1
  have w22 := w2.2
  rw [xor_i64 _ _ hc.1 (by omega) pi.1 (by omega), xor_i64 _ _ w11 (by omega) pj.1 (by omega), xor_i64 _ _ w21 (by omega) pk.1 (by omega), xorI_assoc3]
  refine mend_wrong m hm _ we ?_
  have h1 := wt_xor_le (xorI A B) C (xorI_nonneg _ _) pk.1
  have h2 := wt_xor_le A B pi.1 pj.1
  omega
set_option maxHeartbeats 4000000 in
theorem walk_FnMended (a0 : Option Addr) (len0 cap0 : Nat) (z0 : List Int) (w : World) (w0 : IsRow .u8 w a0 len0 cap0 z0) (hT : Tab2 w) :
    Calls Tryd.prog 6 #[.slice a0 len0 cap0] w fun e w' => e = .returned (.bool true) ∧ Below w.heap.size w w' := by
  obtain ⟨bs, rfl, hr, hc, hm, hv⟩ := w0.bytes
  have hm' := hm
  unfold maxLen at hm'
  by_cases hbig : 1048576 < bs.length
  · go_enter Tryd.func6, Tryd.ntmps6
    go_wp2_with fail
    go_ret
    exact ⟨rfl, Below.refl _ _⟩
  have hbig' : bs.length ≤ 1048576 := by omega
  clear hbig
  go_enter Tryd.func6, Tryd.ntmps6
  go_wp2_with fail
  refine (DrawCodeOf_calls _ _ bs _ hr hc hm hv).mono ?_
  rintro e w1 ⟨a, rfl, a0, a1, b1⟩
  have B0 := Lib.hid (b1)
  rcases hb : msgB a with _ | _
  · have H := Lib.hid (show cOf a = (0, false) by simp [cOf, hb])
    clear hb
    go_wp2_with fail
    refine (iCodeOf_calls a _ (hT.below (B0.out) hT.lt)).mono ?_
    rintro e w1_ ⟨he, b1_⟩
    rw [H.out] at he
    dsimp only at he
    subst he
    have B1 := Lib.hid ((B0.out).trans (b1_.mono (B0.out).size))
    go_wp2_with fail
    refine (sCodeOf_calls a _).mono ?_
    rintro e w2_ ⟨he, b2_⟩
    rw [H.out] at he
    dsimp only at he
    subst he
    have B2 := Lib.hid ((B1.out).trans (b2_.mono (B1.out).size))
    go_wp2_with fail
    go_ret
    first | exact ⟨rfl, B2.out⟩ | exact ⟨rfl, by have hB := B2.out; simp only [World.drewN_drewN] at hB; exact hB⟩
  · have hm := (msgB_iff a).1 hb
    have H := Lib.hid (cOf_yes2 hm)
    have h3 := mend_three a.toNat (by omega) (a % 24).toNat ((a + 5) % 24).toNat ((a + 11) % 24).toNat (by omega) (by omega) (by omega)
    rw [Int.toNat_of_nonneg hm.1] at h3
    clear hb
    generalize codeOf a = y at *
    have hw5 : IntKind.i64.wrap (a + 5) = a + 5 := by rw [IntKind.wrap_i64]; omega
    have hw11 : IntKind.i64.wrap (a + 11) = a + 11 := by rw [IntKind.wrap_i64]; omega
    go_wp2_with fail
    refine (iCodeOf_calls a _ (hT.below (B0.out) hT.lt)).mono ?_
    rintro e w1_ ⟨he, b1_⟩
    rw [H.out] at he
    dsimp only at he
    subst he
    have B1 := Lib.hid ((B0.out).trans (b1_.mono (B0.out).size))
    go_wp2_with fail
    refine (sCodeOf_calls a _).mono ?_
    rintro e w2_ ⟨he, b2_⟩
    rw [H.out] at he
    dsimp only at he
    subst he
    have B2 := Lib.hid ((B1.out).trans (b2_.mono (B1.out).size))
    go_wp2_with fail
    go_quiet (fail)
    have HM3 := Lib.hid h3
    clear h3
    go_wp2_with fail
    refine (iCodeMend_calls _ _ (hT.below (below_drewN (B2.out) _) hT.lt)).mono ?_
    rintro e w9 ⟨he, b9⟩
    rw [HM3.out] at he
    dsimp only at he
    subst he
    go_wp2_with fail
    go_ret
    first | exact ⟨rfl, (below_drewN (B2.out) _).trans (b9.mono (below_drewN (B2.out) _).size)⟩ | exact ⟨rfl, by have hB := (below_drewN (B2.out) _).trans (b9.mono (below_drewN (B2.out) _).size); simp only [World.drewN_drewN] at hB; exact hB⟩
end Go.Proofs.YtongfkjlajmgfaaDoor
