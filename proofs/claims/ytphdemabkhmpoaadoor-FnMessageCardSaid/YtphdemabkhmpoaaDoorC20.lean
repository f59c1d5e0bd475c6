/- Contracts of what the program asks of rows: whether they are in the hexacode, inner products, the nearest row. -/
import Derived.Test.YtphdemabkhmpoaaDoorC19
import Derived.Deep.QuietTactic
import Derived.BigQuiet
import Derived.ChangeKeysEq
namespace Go.Proofs.YtphdemabkhmpoaaDoor
open Go.RowKit
set_option linter.unusedVariables false

theorem eq_rows (a0 a1 a2 a3 a4 a5 b0 b1 b2 b3 b4 b5 : Int) (W : World) : (Op.equalIn 10000 46 (.agg #[.int .u8 a0, .int .u8 a1, .int .u8 a2, .int .u8 a3, .int .u8 a4, .int .u8 a5]) (.agg #[.int .u8 b0, .int .u8 b1, .int .u8 b2, .int .u8 b3, .int .u8 b4, .int .u8 b5])).run Tryd.prog W = .ok (eqR [a0, a1, a2, a3, a4, a5] [b0, b1, b2, b3, b4, b5]) W := by
  have h0 : (Tryd.prog.info? 44).map (·.size) = some 1 := by kernel_rfl
  obtain ⟨i, hi, hs⟩ := Option.map_eq_some_iff.1 h0
  have hc : Tryd.prog.cellsOf 44 = 1 := by kernel_rfl
  rw [show (10000 : Nat) = 9998 + 1 + 1 from rfl, run_equalIn_array W (9998 + 1) _ _ Tryd.underlying46 hi, hc]
  simp only [List.range, List.range.loop, Op.eqItems]
  have u5 := Tryd.underlying44
  go_simp
  unfold eqR
  repeat' split
  all_goals simp_all
set_option maxHeartbeats 2000000 in
theorem inHexacode_calls (d0 d1 d2 d3 d4 d5 : Int) (w : World) (h0 : IsD d0) (h1 : IsD d1) (h2 : IsD d2) (h3 : IsD d3) (h4 : IsD d4) (h5 : IsD d5) (hT : TabP w) :
    Calls Tryd.prog 46 #[.agg #[.int .u8 d0, .int .u8 d1, .int .u8 d2, .int .u8 d3, .int .u8 d4, .int .u8 d5]] w fun r w' => r = .returned (.bool (hexB [d0, d1, d2, d3, d4, d5])) ∧ Below w.heap.size w w' := by
  have hT1 := hT.alloc (.cells #[.int .u8 d0, .int .u8 d1, .int .u8 d2, .int .u8 d3, .int .u8 d4, .int .u8 d5] 46)
  have HQ := eq_rows d0 d1 d2 d3 d4 d5 d0 d1 d2 (hexF d0 d1 d2 1) (hexF d0 d1 d2 2) (hexF d0 d1 d2 3)
  have e : eqR [d0, d1, d2, d3, d4, d5] [d0, d1, d2, hexF d0 d1 d2 1, hexF d0 d1 d2 2, hexF d0 d1 d2 3] = hexB [d0, d1, d2, d3, d4, d5] := rfl
  rw [e] at HQ
  clear e
  go_enter Tryd.func46, Tryd.ntmps46
  go_wp2_with fail
  go_region_held3 (fun w' => w'.cell? ⟨w.heap.size, 0, none⟩ = some (.int .u8 d0) ∧ w'.cell? ⟨w.heap.size, 1, none⟩ = some (.int .u8 d1) ∧ w'.cell? ⟨w.heap.size, 2, none⟩ = some (.int .u8 d2) ∧ w'.cell? ⟨w.heap.size, 3, none⟩ = some (.int .u8 d3) ∧ w'.cell? ⟨w.heap.size, 4, none⟩ = some (.int .u8 d4) ∧ w'.cell? ⟨w.heap.size, 5, none⟩ = some (.int .u8 d5))
    (first | go_keep | (go_split_ands; refine ⟨?_, ?_, ?_, ?_, ?_, ?_⟩ <;> exact (hb2.cell (p := ⟨w.heap.size, _, none⟩) (by simp)).trans (by assumption)))
    ((go_at_call 65; refine (hexRowOf_calls d0 d1 d2 _ h0 h1 h2 ?_).mono ?_; exact hT1; rintro e w2 ⟨rfl, hb2⟩))
  repeat go_step
  go_ret
  exact ⟨rfl, ((Below.refl w.heap.size w).alloc (Nat.le_refl _) (.cells #[.int .u8 d0, .int .u8 d1, .int .u8 d2, .int .u8 d3, .int .u8 d4, .int .u8 d5] 46)).drew.trans (hb2.mono (by show w.heap.size ≤ (w.alloc _).heap.size; simp))⟩
theorem quiet_add_left {P : Program} {f : FuncId} {args : Array Value} {w : World} {a n : Nat} {v : Value}
    (h : Calls P f args (w.drewN (a + n)) fun e w' => e = .returned v ∧ w.drewN (a + n) = w') :
    Calls P f args (w.drewN (a + n)) fun e w'' => e = .returned v ∧ ∃ m, w'' = w.drewN (a + m) :=
  h.mono fun _ _ ⟨he, hm⟩ => ⟨he, n, hm.symm⟩
theorem quiet_left {P : Program} {f : FuncId} {args : Array Value} {w : World} {n : Nat} {v : Value}
    (h : Calls P f args (w.drewN n) fun e w' => e = .returned v ∧ w.drewN n = w') : Calls P f args (w.drewN n) fun e w'' => e = .returned v ∧ ∃ m, w'' = w.drewN m :=
  h.mono fun _ _ ⟨he, hm⟩ => ⟨he, n, hm.symm⟩
end Go.Proofs.YtphdemabkhmpoaaDoor
