import Derived.Test.YtmeejnkpaiinaaaDoorQ1
import Derived.Test.YtmeejnkpaiinaaaDoorP0
import Derived.Test.YtmeejnkpaiinaaaDoorP1
import Derived.Lib.Builder
/- Contracts of the model's hexacode rows and words of messages. -/
namespace Go.Proofs.YtmeejnkpaiinaaaDoor
open Go.RowKit
set_option linter.unusedVariables false

theorem l2Times_calls (a b : Int) (w : World) (h0 : 0 ≤ a) (h1 : a ≤ 3) (h2 : 0 ≤ b) (h3 : b ≤ 3) :
    Calls Tryd.prog 82 #[.int .i64 a, .int .i64 b] w fun e w' => e = .returned (.int .i64 (mulD a b)) ∧ w = w' := by
  by_cases ha : a = 0
  · have HM := Lib.hid (show mulD a b = 0 by simp [mulD, ha])
    have e1 : (a == 0) = true := by simpa using ha
    clear ha
    go_enter Tryd.func82, Tryd.ntmps82
    go_wp2
    go_ret
    exact ⟨ret_i HM.out.symm, rfl⟩
  · have e1 : (a == 0) = false := by simpa using ha
    by_cases hb : b = 0
    · have HM := Lib.hid (show mulD a b = 0 by simp [mulD, hb])
      have e2 : (b == 0) = true := by simpa using hb
      clear ha hb
      go_enter Tryd.func82, Tryd.ntmps82
      go_wp2
      go_ret
      exact ⟨ret_i HM.out.symm, rfl⟩
    · have HM := Lib.hid (show mulD a b = 1 + (a + b - 2) % 3 by simp [mulD, ha, hb])
      have e2 : (b == 0) = false := by simpa using hb
      have g0 : 1 ≤ a := by omega
      have g1 : 1 ≤ b := by omega
      clear ha hb
      go_enter Tryd.func82, Tryd.ntmps82
      go_wp2
      go_ret
      exact ⟨ret_i HM.out.symm, rfl⟩
set_option maxHeartbeats 1000000 in
theorem l2Of_calls (a b c : Int) (w : World) (h0 : 0 ≤ a) (h1 : a ≤ 3) (h2 : 0 ≤ b) (h3 : b ≤ 3) (h4 : 0 ≤ c) (h5 : c ≤ 3) :
    Calls Tryd.prog 68 #[.int .i64 a, .int .i64 b, .int .i64 c] w fun e w' => ∃ v, e = .returned v ∧ Own w' w.heap.size v (hexRow a b c) ∧ Below w.heap.size w w' := by
  have HO := Lib.hid (show Own (w.alloc (.cells #[.int .i64 a, .int .i64 b, .int .i64 c] 3)) w.heap.size (.slice (some ⟨w.heap.size, 0, none⟩) 3 3) [a, b, c] from
    ⟨rfl, .inr ⟨w.heap.size, 3, _, rfl, Nat.le_refl _, heap_alloc_new w _, by simp, by unfold maxLen; omega, by simp, by simp [vals]⟩⟩)
  go_enter Tryd.func68, Tryd.ntmps68
  go_wp2
  go_loopw [7, 8] (fun v x wr => ∃ k : Nat, k ≤ 3 ∧ x = .int .i64 ((k : Int) + 1) ∧ Hid (Own wr w.heap.size v ((hexRow a b c).take (3 + k))) ∧ Hid (Below w.heap.size w wr)) (fun _ x _ => 4 - (intOf x).toNat)
  case atStart => exact ⟨0, by omega, rfl, HO, Lib.hid ((Below.refl _ _).alloc (Nat.le_refl _) _)⟩
  case round =>
    obtain ⟨k, hk, rfl, ho, hb⟩ := hrel
    clear HO
    by_cases hlt : k < 3
    · have m1 := mulD_range ((k : Int) + 1) ((k : Int) + 1) (by omega) (by omega) (by omega) (by omega)
      have m2 := mulD_range a (mulD ((k : Int) + 1) ((k : Int) + 1)) (by omega) (by omega) m1.1 m1.2
      have m3 := mulD_range b ((k : Int) + 1) (by omega) (by omega) (by omega) (by omega)
      have x1 : bits .xor .i64 (mulD a (mulD ((k : Int) + 1) ((k : Int) + 1))) (mulD b ((k : Int) + 1)) = xorI (mulD a (mulD ((k : Int) + 1) ((k : Int) + 1))) (mulD b ((k : Int) + 1)) := xor_i64 _ _ m2.1 (by omega) m3.1 (by omega)
      have x2 : bits .xor .i64 (xorI (mulD a (mulD ((k : Int) + 1) ((k : Int) + 1))) (mulD b ((k : Int) + 1))) c = hexF a b c ((k : Int) + 1) :=
        xor_i64 _ _ (xorI_nonneg _ _) (by have := xorI_lt4 _ _ m2.2 m3.2; omega) h4 (by omega)
      have HL := Lib.hid (hexRow_step a b c k hlt)
      go_wp2_with (first
        | (go_at_call 82; refine (l2Times_calls _ _ _ (by omega) (by omega) (by omega) (by omega)).mono ?_; rintro e w' ⟨rfl, rfl⟩)
        | (at_builtin; refine wpList_push rfl _ _ rfl wr w.heap.size _ _ _ _ rfl rfl (by exact ho.out) (by simp; omega) hb.out.size ?_; intro v2 w2 ho2 hb2 _))
      rw [HL.out] at ho2
      go_roundw
      case rel => exact ⟨k + 1, by omega, by go_num, Lib.hid ho2, Lib.hid (hb.out.trans hb2)⟩
      case measure => simp [intOf]; omega
    · obtain rfl : k = 3 := by omega
      go_wp2
      go_ret
      exact ⟨_, rfl, ho.out, hb.out⟩
end Go.Proofs.YtmeejnkpaiinaaaDoor
/- The contract of the model's word of a message. -/
namespace Go.Proofs.YtmeejnkpaiinaaaDoor
open Go.RowKit
set_option linter.unusedVariables false

end Go.Proofs.YtmeejnkpaiinaaaDoor
/- Contracts of the reader of drawn bytes: opening it, one pick. -/
namespace Go.Proofs.YtmeejnkpaiinaaaDoor
end Go.Proofs.YtmeejnkpaiinaaaDoor
/- Contracts of drawing words. -/
namespace Go.Proofs.YtmeejnkpaiinaaaDoor
end Go.Proofs.YtmeejnkpaiinaaaDoor