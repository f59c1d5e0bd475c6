/- Contracts of what the program asks of rows: whether they are in the hexacode, inner products, the nearest row. -/
import Derived.Test.YtojjbdpoecmaeaaDoorC19
import Derived.Deep.QuietTactic
import Derived.BigQuiet
import Derived.ChangeKeysEq
namespace Go.Proofs.YtojjbdpoecmaeaaDoor
open Go.RowKit
set_option linter.unusedVariables false

theorem eq_rows (a0 a1 a2 a3 a4 a5 b0 b1 b2 b3 b4 b5 : Int) (W : World) : (Op.equalIn 10000 61 (.agg #[.int .u8 a0, .int .u8 a1, .int .u8 a2, .int .u8 a3, .int .u8 a4, .int .u8 a5]) (.agg #[.int .u8 b0, .int .u8 b1, .int .u8 b2, .int .u8 b3, .int .u8 b4, .int .u8 b5])).run Tryd.prog W = .ok (eqR [a0, a1, a2, a3, a4, a5] [b0, b1, b2, b3, b4, b5]) W := by
  have h0 : (Tryd.prog.info? 50).map (·.size) = some 1 := by kernel_rfl
  obtain ⟨i, hi, hs⟩ := Option.map_eq_some_iff.1 h0
  have hc : Tryd.prog.cellsOf 50 = 1 := by kernel_rfl
  rw [show (10000 : Nat) = 9998 + 1 + 1 from rfl, run_equalIn_array W (9998 + 1) _ _ Tryd.underlying61 hi, hc]
  simp only [List.range, List.range.loop, Op.eqItems]
  have u5 := Tryd.underlying50
  go_simp
  unfold eqR
  repeat' split
  all_goals simp_all
set_option maxHeartbeats 2000000 in
theorem inHexacode_calls (d0 d1 d2 d3 d4 d5 : Int) (w : World) (h0 : IsD d0) (h1 : IsD d1) (h2 : IsD d2) (h3 : IsD d3) (h4 : IsD d4) (h5 : IsD d5) (hT : Tab w) :
    Calls Tryd.prog 58 #[.agg #[.int .u8 d0, .int .u8 d1, .int .u8 d2, .int .u8 d3, .int .u8 d4, .int .u8 d5]] w fun r w' => r = .returned (.bool (hexB [d0, d1, d2, d3, d4, d5])) ∧ Below w.heap.size w w' := by
  have hT1 := hT.alloc (.cells #[.int .u8 d0, .int .u8 d1, .int .u8 d2, .int .u8 d3, .int .u8 d4, .int .u8 d5] 61)
  have HQ := eq_rows d0 d1 d2 d3 d4 d5 d0 d1 d2 (hexF d0 d1 d2 1) (hexF d0 d1 d2 2) (hexF d0 d1 d2 3)
  have e : eqR [d0, d1, d2, d3, d4, d5] [d0, d1, d2, hexF d0 d1 d2 1, hexF d0 d1 d2 2, hexF d0 d1 d2 3] = hexB [d0, d1, d2, d3, d4, d5] := rfl
  rw [e] at HQ
  clear e
  go_enter Tryd.func58, Tryd.ntmps58
  go_wp2_with fail
  go_region_held3 (fun w' => w'.cell? ⟨w.heap.size, 0, none⟩ = some (.int .u8 d0) ∧ w'.cell? ⟨w.heap.size, 1, none⟩ = some (.int .u8 d1) ∧ w'.cell? ⟨w.heap.size, 2, none⟩ = some (.int .u8 d2) ∧ w'.cell? ⟨w.heap.size, 3, none⟩ = some (.int .u8 d3) ∧ w'.cell? ⟨w.heap.size, 4, none⟩ = some (.int .u8 d4) ∧ w'.cell? ⟨w.heap.size, 5, none⟩ = some (.int .u8 d5))
    (first | go_keep | (go_split_ands; refine ⟨?_, ?_, ?_, ?_, ?_, ?_⟩ <;> exact (hb2.cell (p := ⟨w.heap.size, _, none⟩) (by simp)).trans (by assumption)))
    ((go_at_call 53; refine (hexRowOf_calls d0 d1 d2 _ h0 h1 h2 ?_).mono ?_; exact hT1; rintro e w2 ⟨rfl, hb2⟩))
  repeat go_step
  go_ret
  exact ⟨rfl, ((Below.refl w.heap.size w).alloc (Nat.le_refl _) (.cells #[.int .u8 d0, .int .u8 d1, .int .u8 d2, .int .u8 d3, .int .u8 d4, .int .u8 d5] 61)).drew.trans (hb2.mono (by show w.heap.size ≤ (w.alloc _).heap.size; simp))⟩
theorem quiet_add_left {P : Program} {f : FuncId} {args : Array Value} {w : World} {a n : Nat} {v : Value}
    (h : Calls P f args (w.drewN (a + n)) fun e w' => e = .returned v ∧ w.drewN (a + n) = w') :
    Calls P f args (w.drewN (a + n)) fun e w'' => e = .returned v ∧ ∃ m, w'' = w.drewN (a + m) :=
  h.mono fun _ _ ⟨he, hm⟩ => ⟨he, n, hm.symm⟩
theorem quiet_left {P : Program} {f : FuncId} {args : Array Value} {w : World} {n : Nat} {v : Value}
    (h : Calls P f args (w.drewN n) fun e w' => e = .returned v ∧ w.drewN n = w') : Calls P f args (w.drewN n) fun e w'' => e = .returned v ∧ ∃ m, w'' = w.drewN m :=
  h.mono fun _ _ ⟨he, hm⟩ => ⟨he, n, hm.symm⟩
set_option maxHeartbeats 4000000 in
theorem hexRow_inner_calls (d0 d1 d2 d3 d4 d5 : Int) (e0 e1 e2 e3 e4 e5 : Int) (w : World) (h0 : IsD d0) (h1 : IsD d1) (h2 : IsD d2) (h3 : IsD d3) (h4 : IsD d4) (h5 : IsD d5) (g0 : IsD e0) (g1 : IsD e1) (g2 : IsD e2) (g3 : IsD e3) (g4 : IsD e4) (g5 : IsD e5) (hT : Tab w) :
    Calls Tryd.prog 65 #[.agg #[.int .u8 d0, .int .u8 d1, .int .u8 d2, .int .u8 d3, .int .u8 d4, .int .u8 d5], .agg #[.int .u8 e0, .int .u8 e1, .int .u8 e2, .int .u8 e3, .int .u8 e4, .int .u8 e5]] w fun r w' => r = .returned (.int .u8 (innR [d0, d1, d2, d3, d4, d5] [e0, e1, e2, e3, e4, e5])) ∧ Below w.heap.size w w' := by
  have Z := zero_d
  have I0 := idx0 (.int .u8 e0) (.int .u8 e1) (.int .u8 e2) (.int .u8 e3) (.int .u8 e4) (.int .u8 e5)
  have I1 := idx1 (.int .u8 e0) (.int .u8 e1) (.int .u8 e2) (.int .u8 e3) (.int .u8 e4) (.int .u8 e5)
  have I2 := idx2 (.int .u8 e0) (.int .u8 e1) (.int .u8 e2) (.int .u8 e3) (.int .u8 e4) (.int .u8 e5)
  have I3 := idx3 (.int .u8 e0) (.int .u8 e1) (.int .u8 e2) (.int .u8 e3) (.int .u8 e4) (.int .u8 e5)
  have I4 := idx4 (.int .u8 e0) (.int .u8 e1) (.int .u8 e2) (.int .u8 e3) (.int .u8 e4) (.int .u8 e5)
  have I5 := idx5 (.int .u8 e0) (.int .u8 e1) (.int .u8 e2) (.int .u8 e3) (.int .u8 e4) (.int .u8 e5)
  have HT : ∀ n, Tab (((w.alloc (.cells #[.int .u8 d0, .int .u8 d1, .int .u8 d2, .int .u8 d3, .int .u8 d4, .int .u8 d5] 61)).alloc (.cells #[.int .u8 e0, .int .u8 e1, .int .u8 e2, .int .u8 e3, .int .u8 e4, .int .u8 e5] 61)).drewN n) := fun n => ((hT.alloc _).alloc _).drewN n
  have HR := Lib.hid (show innR [d0, d1, d2, d3, d4, d5] [e0, e1, e2, e3, e4, e5] = xorI (xorI (xorI (xorI (xorI (xorI 0 (mulD d0 (sq e0))) (mulD d1 (sq e1))) (mulD d2 (sq e2))) (mulD d3 (sq e3))) (mulD d4 (sq e4))) (mulD d5 (sq e5)) from rfl)
  go_enter Tryd.func65, Tryd.ntmps65
  go_wp2
  refine wp_loop_rounds 7 ?_
  rw [rounds_succ]; go_wp2_with fail
  go_quiet ((first
    | (go_at_call 69; first | exact quiet_left (digit_mirror _ _ (by repeat (first | assumption | apply sq_d | apply mulD_d | apply xorI_d)) (HT _)) | exact quiet_add_left (digit_mirror _ _ (by repeat (first | assumption | apply sq_d | apply mulD_d | apply xorI_d)) (HT _)))
    | (go_at_call 46; first | exact quiet_left (digit_times _ _ _ (by repeat (first | assumption | apply sq_d | apply mulD_d | apply xorI_d)) (by repeat (first | assumption | apply sq_d | apply mulD_d | apply xorI_d)) (HT _)) | exact quiet_add_left (digit_times _ _ _ (by repeat (first | assumption | apply sq_d | apply mulD_d | apply xorI_d)) (by repeat (first | assumption | apply sq_d | apply mulD_d | apply xorI_d)) (HT _)))
    | (go_at_call 49; first | exact quiet_left (digit_add _ _ _ (by repeat (first | assumption | apply sq_d | apply mulD_d | apply xorI_d)) (by repeat (first | assumption | apply sq_d | apply mulD_d | apply xorI_d))) | exact quiet_add_left (digit_add _ _ _ (by repeat (first | assumption | apply sq_d | apply mulD_d | apply xorI_d)) (by repeat (first | assumption | apply sq_d | apply mulD_d | apply xorI_d))))))
  go_wp2_with fail
  rw [rounds_succ]; go_wp2_with fail
  go_quiet ((first
    | (go_at_call 69; first | exact quiet_left (digit_mirror _ _ (by repeat (first | assumption | apply sq_d | apply mulD_d | apply xorI_d)) (HT _)) | exact quiet_add_left (digit_mirror _ _ (by repeat (first | assumption | apply sq_d | apply mulD_d | apply xorI_d)) (HT _)))
    | (go_at_call 46; first | exact quiet_left (digit_times _ _ _ (by repeat (first | assumption | apply sq_d | apply mulD_d | apply xorI_d)) (by repeat (first | assumption | apply sq_d | apply mulD_d | apply xorI_d)) (HT _)) | exact quiet_add_left (digit_times _ _ _ (by repeat (first | assumption | apply sq_d | apply mulD_d | apply xorI_d)) (by repeat (first | assumption | apply sq_d | apply mulD_d | apply xorI_d)) (HT _)))
    | (go_at_call 49; first | exact quiet_left (digit_add _ _ _ (by repeat (first | assumption | apply sq_d | apply mulD_d | apply xorI_d)) (by repeat (first | assumption | apply sq_d | apply mulD_d | apply xorI_d))) | exact quiet_add_left (digit_add _ _ _ (by repeat (first | assumption | apply sq_d | apply mulD_d | apply xorI_d)) (by repeat (first | assumption | apply sq_d | apply mulD_d | apply xorI_d))))))
  go_wp2_with fail
  rw [rounds_succ]; go_wp2_with fail
  go_quiet ((first
    | (go_at_call 69; first | exact quiet_left (digit_mirror _ _ (by repeat (first | assumption | apply sq_d | apply mulD_d | apply xorI_d)) (HT _)) | exact quiet_add_left (digit_mirror _ _ (by repeat (first | assumption | apply sq_d | apply mulD_d | apply xorI_d)) (HT _)))
    | (go_at_call 46; first | exact quiet_left (digit_times _ _ _ (by repeat (first | assumption | apply sq_d | apply mulD_d | apply xorI_d)) (by repeat (first | assumption | apply sq_d | apply mulD_d | apply xorI_d)) (HT _)) | exact quiet_add_left (digit_times _ _ _ (by repeat (first | assumption | apply sq_d | apply mulD_d | apply xorI_d)) (by repeat (first | assumption | apply sq_d | apply mulD_d | apply xorI_d)) (HT _)))
    | (go_at_call 49; first | exact quiet_left (digit_add _ _ _ (by repeat (first | assumption | apply sq_d | apply mulD_d | apply xorI_d)) (by repeat (first | assumption | apply sq_d | apply mulD_d | apply xorI_d))) | exact quiet_add_left (digit_add _ _ _ (by repeat (first | assumption | apply sq_d | apply mulD_d | apply xorI_d)) (by repeat (first | assumption | apply sq_d | apply mulD_d | apply xorI_d))))))
  go_wp2_with fail
  rw [rounds_succ]; go_wp2_with fail
  go_quiet ((first
    | (go_at_call 69; first | exact quiet_left (digit_mirror _ _ (by repeat (first | assumption | apply sq_d | apply mulD_d | apply xorI_d)) (HT _)) | exact quiet_add_left (digit_mirror _ _ (by repeat (first | assumption | apply sq_d | apply mulD_d | apply xorI_d)) (HT _)))
    | (go_at_call 46; first | exact quiet_left (digit_times _ _ _ (by repeat (first | assumption | apply sq_d | apply mulD_d | apply xorI_d)) (by repeat (first | assumption | apply sq_d | apply mulD_d | apply xorI_d)) (HT _)) | exact quiet_add_left (digit_times _ _ _ (by repeat (first | assumption | apply sq_d | apply mulD_d | apply xorI_d)) (by repeat (first | assumption | apply sq_d | apply mulD_d | apply xorI_d)) (HT _)))
    | (go_at_call 49; first | exact quiet_left (digit_add _ _ _ (by repeat (first | assumption | apply sq_d | apply mulD_d | apply xorI_d)) (by repeat (first | assumption | apply sq_d | apply mulD_d | apply xorI_d))) | exact quiet_add_left (digit_add _ _ _ (by repeat (first | assumption | apply sq_d | apply mulD_d | apply xorI_d)) (by repeat (first | assumption | apply sq_d | apply mulD_d | apply xorI_d))))))
  go_wp2_with fail
  rw [rounds_succ]; go_wp2_with fail
  go_quiet ((first
    | (go_at_call 69; first | exact quiet_left (digit_mirror _ _ (by repeat (first | assumption | apply sq_d | apply mulD_d | apply xorI_d)) (HT _)) | exact quiet_add_left (digit_mirror _ _ (by repeat (first | assumption | apply sq_d | apply mulD_d | apply xorI_d)) (HT _)))
    | (go_at_call 46; first | exact quiet_left (digit_times _ _ _ (by repeat (first | assumption | apply sq_d | apply mulD_d | apply xorI_d)) (by repeat (first | assumption | apply sq_d | apply mulD_d | apply xorI_d)) (HT _)) | exact quiet_add_left (digit_times _ _ _ (by repeat (first | assumption | apply sq_d | apply mulD_d | apply xorI_d)) (by repeat (first | assumption | apply sq_d | apply mulD_d | apply xorI_d)) (HT _)))
    | (go_at_call 49; first | exact quiet_left (digit_add _ _ _ (by repeat (first | assumption | apply sq_d | apply mulD_d | apply xorI_d)) (by repeat (first | assumption | apply sq_d | apply mulD_d | apply xorI_d))) | exact quiet_add_left (digit_add _ _ _ (by repeat (first | assumption | apply sq_d | apply mulD_d | apply xorI_d)) (by repeat (first | assumption | apply sq_d | apply mulD_d | apply xorI_d))))))
  go_wp2_with fail
  rw [rounds_succ]; go_wp2_with fail
  go_quiet ((first
    | (go_at_call 69; first | exact quiet_left (digit_mirror _ _ (by repeat (first | assumption | apply sq_d | apply mulD_d | apply xorI_d)) (HT _)) | exact quiet_add_left (digit_mirror _ _ (by repeat (first | assumption | apply sq_d | apply mulD_d | apply xorI_d)) (HT _)))
    | (go_at_call 46; first | exact quiet_left (digit_times _ _ _ (by repeat (first | assumption | apply sq_d | apply mulD_d | apply xorI_d)) (by repeat (first | assumption | apply sq_d | apply mulD_d | apply xorI_d)) (HT _)) | exact quiet_add_left (digit_times _ _ _ (by repeat (first | assumption | apply sq_d | apply mulD_d | apply xorI_d)) (by repeat (first | assumption | apply sq_d | apply mulD_d | apply xorI_d)) (HT _)))
    | (go_at_call 49; first | exact quiet_left (digit_add _ _ _ (by repeat (first | assumption | apply sq_d | apply mulD_d | apply xorI_d)) (by repeat (first | assumption | apply sq_d | apply mulD_d | apply xorI_d))) | exact quiet_add_left (digit_add _ _ _ (by repeat (first | assumption | apply sq_d | apply mulD_d | apply xorI_d)) (by repeat (first | assumption | apply sq_d | apply mulD_d | apply xorI_d))))))
  go_wp2_with fail
  rw [rounds_succ]; go_wp2_with fail
  go_ret
  exact ⟨ret_i HR.out.symm, below_drewN (((Below.refl _ _).alloc (Nat.le_refl _) _).alloc (by simp) _) _⟩
theorem hexRowAt6 (k : Nat) (e0 e1 e2 e3 e4 e5 : Int) (w : World) (hk : k < 64) (hs : hexAt k = [e0, e1, e2, e3, e4, e5]) (hT : Tab w) :
    Calls Tryd.prog 70 #[.int .i64 k] w fun r w' => r = .returned (.agg #[.int .u8 e0, .int .u8 e1, .int .u8 e2, .int .u8 e3, .int .u8 e4, .int .u8 e5]) ∧ Below w.heap.size w w' := by
  have := hexRowAt_calls k w hk hT
  rw [hs] at this
  exact this
theorem Blk.big {w w' : World} {B g : Nat} {t : TypeId} {xs : Array Value} (h : Blk w g t xs) (hb : Below w.heap.size w w') : Blk w' g t xs := h.below hb h.lt
/-- The nearest row so far. -/
def NearSo (r : List Int) (k : Nat) (xs : List Int) (n : Int) : Prop := n = (nearTo r k).2 ∧ (k = 0 ∨ xs = (nearTo r k).1)
theorem near_yes (r : List Int) (k : Nat) (xs : List Int) (n : Int) (h : NearSo r k xs n) (hl : wtR (addR r (hexAt k)) < n) : NearSo r (k + 1) (hexAt k) (wtR (addR r (hexAt k))) := by
  obtain ⟨rfl, _⟩ := h
  refine ⟨?_, .inr ?_⟩ <;> simp only [nearTo] <;> rw [if_pos hl]
theorem near_no {r : List Int} (hr : IsRow6 r) (k : Nat) (hk : k < 64) (xs : List Int) (n : Int) (h : NearSo r k xs n) (hl : ¬ wtR (addR r (hexAt k)) < n) : NearSo r (k + 1) xs n := by
  obtain ⟨rfl, h2⟩ := h
  have hne : k ≠ 0 := by
    rintro rfl
    have := wtR_range (addR_row hr (hexAt_row 0 (by omega)))
    exact hl (by show _ < (7 : Int); omega)
  refine ⟨?_, .inr ?_⟩ <;> simp only [nearTo] <;> rw [if_neg hl]
  exact h2.resolve_left hne
set_option maxHeartbeats 8000000 in
theorem hexRow_near_calls (d0 d1 d2 d3 d4 d5 : Int) (w : World) (h0 : IsD d0) (h1 : IsD d1) (h2 : IsD d2) (h3 : IsD d3) (h4 : IsD d4) (h5 : IsD d5) (hT : Tab w) :
    Calls Tryd.prog 67 #[.agg #[.int .u8 d0, .int .u8 d1, .int .u8 d2, .int .u8 d3, .int .u8 d4, .int .u8 d5]] w fun r w' => r = .returned (.tuple #[.agg (vals .u8 (nearTo [d0, d1, d2, d3, d4, d5] 64).1).toArray, .int .i64 (nearTo [d0, d1, d2, d3, d4, d5] 64).2]) ∧ Below w.heap.size w w' := by
  have hrow := isRow6_mk h0 h1 h2 h3 h4 h5
  have HRW := Lib.hid hrow
  have HB0 := Lib.hid ((((Below.refl w.heap.size w).alloc (Nat.le_refl _) (.cells #[.int .u8 d0, .int .u8 d1, .int .u8 d2, .int .u8 d3, .int .u8 d4, .int .u8 d5] 61)).alloc (by simp) (.cells #[.int .u8 0, .int .u8 0, .int .u8 0, .int .u8 0, .int .u8 0, .int .u8 0] 61)).alloc (by simp; omega) (.cells #[.int .u8 0, .int .u8 0, .int .u8 0, .int .u8 0, .int .u8 0, .int .u8 0] 61))
  have HA := Lib.hid (((Blk.new w 61 #[.int .u8 d0, .int .u8 d1, .int .u8 d2, .int .u8 d3, .int .u8 d4, .int .u8 d5]).alloc (.cells #[.int .u8 0, .int .u8 0, .int .u8 0, .int .u8 0, .int .u8 0, .int .u8 0] 61)).alloc (.cells #[.int .u8 0, .int .u8 0, .int .u8 0, .int .u8 0, .int .u8 0, .int .u8 0] 61))
  have HZ := Lib.hid ((Blk.new1 w (.cells #[.int .u8 d0, .int .u8 d1, .int .u8 d2, .int .u8 d3, .int .u8 d4, .int .u8 d5] 61) 61 #[.int .u8 0, .int .u8 0, .int .u8 0, .int .u8 0, .int .u8 0, .int .u8 0]).alloc (.cells #[.int .u8 0, .int .u8 0, .int .u8 0, .int .u8 0, .int .u8 0, .int .u8 0] 61))
  have HN := Blk.new ((w.alloc (.cells #[.int .u8 d0, .int .u8 d1, .int .u8 d2, .int .u8 d3, .int .u8 d4, .int .u8 d5] 61)).alloc (.cells #[.int .u8 0, .int .u8 0, .int .u8 0, .int .u8 0, .int .u8 0, .int .u8 0] 61)) 61 #[.int .u8 0, .int .u8 0, .int .u8 0, .int .u8 0, .int .u8 0, .int .u8 0]
  simp only [alloc_sz] at HN
  have HN' := Lib.hid HN
  clear HN hrow
  go_enter Tryd.func67, Tryd.ntmps67
  go_wp2
  go_loopw [5, 6, 7, 8, 9] (fun f _ _ _ i wr => ∃ (k : Nat) (n x0 x1 x2 x3 x4 x5 : Int), k ≤ 64 ∧ i = .int .i64 k ∧ f = .int .i64 n ∧ Hid (NearSo [d0, d1, d2, d3, d4, d5] k [x0, x1, x2, x3, x4, x5] n) ∧ Hid (Blk wr w.heap.size 61 #[.int .u8 d0, .int .u8 d1, .int .u8 d2, .int .u8 d3, .int .u8 d4, .int .u8 d5]) ∧ Hid (Blk wr (w.heap.size + 1) 61 #[.int .u8 0, .int .u8 0, .int .u8 0, .int .u8 0, .int .u8 0, .int .u8 0]) ∧
      Hid (Blk wr (w.heap.size + 2) 61 #[.int .u8 x0, .int .u8 x1, .int .u8 x2, .int .u8 x3, .int .u8 x4, .int .u8 x5]) ∧ Hid (Below w.heap.size w wr)) (fun _ _ _ _ i _ => 64 - (intOf i).toNat)
  case atStart => exact ⟨0, 7, 0, 0, 0, 0, 0, 0, by omega, rfl, rfl, Lib.hid ⟨rfl, .inl rfl⟩, HA, HZ, HN', HB0⟩
  case round =>
    obtain ⟨k, n, x0, x1, x2, x3, x4, x5, hk, rfl, rfl, hn, ba, bz, bn, hb⟩ := hrel
    clear HB0 HA HZ HN'
    have hs0 := hb.out.size
    have n1 := ba.out.lt
    have n2 := bz.out.lt
    have n3 := bn.out.lt
    by_cases hlt : k < 64
    · obtain ⟨e0, e1, e2, e3, e4, e5, hse, g0, g1, g2, g3, g4, g5⟩ := (hexAt_row k hlt).six
      have HSE := Lib.hid hse
      clear hse
      have HTW := Lib.hid (hT.below hb.out hT.lt)
      go_wp2_with fail
      refine (hexRowAt6 k e0 e1 e2 e3 e4 e5 _ hlt HSE.out HTW.out).mono ?_
      rintro e w1 ⟨rfl, b1⟩
      have s1 := b1.size
      obtain ⟨q0, q1, q2, q3, q4, q5, qf⟩ := (ba.out.below b1 n1).six
      have m1 : w.heap.size < w1.heap.size := by omega
      go_wp2_with fail
      refine (hexRow_add_calls d0 d1 d2 d3 d4 d5 e0 e1 e2 e3 e4 e5 _ h0 h1 h2 h3 h4 h5 g0 g1 g2 g3 g4 g5).mono ?_
      rintro e w2 ⟨rfl, b2⟩
      have s2 := b2.size
      simp only [alloc_sz] at s2
      go_wp2_with fail
      refine (hexRow_weight_calls (xorI d0 e0) (xorI d1 e1) (xorI d2 e2) (xorI d3 e3) (xorI d4 e4) (xorI d5 e5) _).mono ?_
      rintro e w3 ⟨rfl, b3⟩
      have s3 := b3.size
      have B3 : Below wr.heap.size wr w3 := (b1.alloc (by omega) (.cells #[.int .u8 e0, .int .u8 e1, .int .u8 e2, .int .u8 e3, .int .u8 e4, .int .u8 e5] 61)).trans ((b2.mono (by simp only [alloc_sz]; omega)).trans (b3.mono (by omega)))
      have HWE := Lib.hid (show wtR (addR [d0, d1, d2, d3, d4, d5] (hexAt k)) = wtR [xorI d0 e0, xorI d1 e1, xorI d2 e2, xorI d3 e3, xorI d4 e4, xorI d5 e5] by rw [HSE.out]; rfl)
      have hwr := wtR_range (isRow6_mk (xorI_d h0 g0) (xorI_d h1 g1) (xorI_d h2 g2) (xorI_d h3 g3) (xorI_d h4 g4) (xorI_d h5 g5))
      have HA3 := Lib.hid (ba.out.below B3 n1)
      have HZ3 := Lib.hid (bz.out.below B3 n2)
      have HN3 := Lib.hid (bn.out.below B3 n3)
      have HB3 := Lib.hid (hb.out.trans (B3.mono hs0))
      have HE3 := ((Blk.new w1 61 #[.int .u8 e0, .int .u8 e1, .int .u8 e2, .int .u8 e3, .int .u8 e4, .int .u8 e5]).below b2 (by simp only [alloc_sz]; omega)).below b3 (by omega)
      clear ba bz bn hb B3 q0 q1 q2 q3 q4 q5 qf b1 b2 b3
      generalize wtR [xorI d0 e0, xorI d1 e1, xorI d2 e2, xorI d3 e3, xorI d4 e4, xorI d5 e5] = m at *
      by_cases hl : m < n
      · have HY := Lib.hid (near_yes [d0, d1, d2, d3, d4, d5] k _ n hn.out (by rw [HWE.out]; exact hl))
        rw [HWE.out, HSE.out] at HY
        obtain ⟨q0, q1, q2, q3, q4, q5, qf⟩ := HE3.six
        obtain ⟨r0, r1, r2, r3, r4, r5, rf⟩ := HN3.out.six
        clear hn HE3
        simp only []
        repeat (first | go_step | go_guarded | go_skip)
        exact ⟨⟨k + 1, m, e0, e1, e2, e3, e4, e5, by omega, by go_num, rfl, HY, Lib.hid (HA3.out.far6 (by omega)), Lib.hid (HZ3.out.far6 (by omega)), Lib.hid HN3.out.set6, Lib.hid (below_set6 HB3.out (by omega))⟩, by simp [intOf]; omega⟩
      · have HY := Lib.hid (near_no HRW.out k hlt _ n hn.out (by rw [HWE.out]; exact hl))
        clear hn HE3
        simp only []
        repeat (first | go_step | go_guarded | go_skip)
        exact ⟨⟨k + 1, n, x0, x1, x2, x3, x4, x5, by omega, by go_num, rfl, HY, HA3, HZ3, HN3, HB3⟩, by simp [intOf]; omega⟩
    · obtain rfl : k = 64 := by omega
      obtain ⟨hn1, hn2⟩ := hn.out
      have hn3 := hn2.resolve_left (by omega)
      have HE1 := Lib.hid hn1
      have HE2 := Lib.hid (show #[.int .u8 x0, .int .u8 x1, .int .u8 x2, .int .u8 x3, .int .u8 x4, .int .u8 x5] = (vals .u8 (nearTo [d0, d1, d2, d3, d4, d5] 64).1).toArray by rw [← hn3]; rfl)
      obtain ⟨q0, q1, q2, q3, q4, q5, qf⟩ := bn.out.six
      obtain ⟨r0, r1, r2, r3, r4, r5, rf⟩ := bz.out.six
      clear hn hn1 hn2 hn3
      repeat (first | go_step | go_guarded | go_skip)
      exact bodyPost_ret (results_ct rfl rfl rfl bz.out.set6 Tryd.underlying61 rfl rowInfo) rfl ⟨by rw [HE1.out, ← HE2.out]; rfl, below_set6 hb.out (by omega)⟩
end Go.Proofs.YtojjbdpoecmaeaaDoor
