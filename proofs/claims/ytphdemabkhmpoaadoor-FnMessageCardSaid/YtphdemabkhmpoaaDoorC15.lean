/- Contracts of rows of six digits, of the program: two rows read, a sum, a weight, a row as a list. -/
import Derived.Test.YtphdemabkhmpoaaDoorC14
import Derived.Test.YtphdemabkhmpoaaDoorM11
namespace Go.Proofs.YtphdemabkhmpoaaDoor
open Go.RowKit
set_option linter.unusedVariables false

theorem rowInfo : (Tryd.prog.info? 46).map (·.size) = some 6 := by kernel_rfl
theorem Rds.below_more {w w' : World} {B : Nat} {k : IntKind} {A : Option Addr} {xs : List Int} (h : Rds w B k A xs) (hb : Below B w w') (hs : B ≤ w'.heap.size) : Rds w' w'.heap.size k A xs := (h.below hb).more hs
theorem idx0 (v0 v1 v2 v3 v4 v5 : Value) (W : World) : (Instr.index 46 (.agg #[v0, v1, v2, v3, v4, v5]) (.int .i64 0)).run Tryd.prog W = .ok v0 W := by kernel_rfl
theorem idx1 (v0 v1 v2 v3 v4 v5 : Value) (W : World) : (Instr.index 46 (.agg #[v0, v1, v2, v3, v4, v5]) (.int .i64 1)).run Tryd.prog W = .ok v1 W := by kernel_rfl
theorem idx2 (v0 v1 v2 v3 v4 v5 : Value) (W : World) : (Instr.index 46 (.agg #[v0, v1, v2, v3, v4, v5]) (.int .i64 2)).run Tryd.prog W = .ok v2 W := by kernel_rfl
theorem idx3 (v0 v1 v2 v3 v4 v5 : Value) (W : World) : (Instr.index 46 (.agg #[v0, v1, v2, v3, v4, v5]) (.int .i64 3)).run Tryd.prog W = .ok v3 W := by kernel_rfl
theorem idx4 (v0 v1 v2 v3 v4 v5 : Value) (W : World) : (Instr.index 46 (.agg #[v0, v1, v2, v3, v4, v5]) (.int .i64 4)).run Tryd.prog W = .ok v4 W := by kernel_rfl
theorem idx5 (v0 v1 v2 v3 v4 v5 : Value) (W : World) : (Instr.index 46 (.agg #[v0, v1, v2, v3, v4, v5]) (.int .i64 5)).run Tryd.prog W = .ok v5 W := by kernel_rfl
set_option maxHeartbeats 1000000 in
theorem twoHexRowsFrom_ok (A A2 : Option Addr) (n n2 : Nat) (d0 d1 d2 d3 d4 d5 : Int) (e0 e1 e2 e3 e4 e5 : Int) (w : World) (hr : Rds w w.heap.size .i64 A [d0, d1, d2, d3, d4, d5]) (hr2 : Rds w w.heap.size .i64 A2 [e0, e1, e2, e3, e4, e5]) (h0 : IsD d0) (h1 : IsD d1) (h2 : IsD d2) (h3 : IsD d3) (h4 : IsD d4) (h5 : IsD d5) (g0 : IsD e0) (g1 : IsD e1) (g2 : IsD e2) (g3 : IsD e3) (g4 : IsD e4) (g5 : IsD e5) :
    Calls Tryd.prog 40 #[.slice A 6 n, .slice A2 6 n2] w fun r w' => r = .returned (.tuple #[.agg #[.int .u8 d0, .int .u8 d1, .int .u8 d2, .int .u8 d3, .int .u8 d4, .int .u8 d5], .agg #[.int .u8 e0, .int .u8 e1, .int .u8 e2, .int .u8 e3, .int .u8 e4, .int .u8 e5], .bool true]) ∧ Below w.heap.size w w' := by
  go_enter Tryd.func40, Tryd.ntmps40
  go_wp2_with fail
  refine (hexRowFrom_ok A n d0 d1 d2 d3 d4 d5 _ ((hr.alloc (Nat.le_refl _) _).alloc (by simp) _ |>.more (by simp; omega)) h0 h1 h2 h3 h4 h5).mono ?_
  rintro e w1 ⟨rfl, b1⟩
  have hs1 := b1.size
  simp at hs1
  have b1' := (((Below.refl w.heap.size w).alloc (Nat.le_refl _) (.cells #[.int .u8 0, .int .u8 0, .int .u8 0, .int .u8 0, .int .u8 0, .int .u8 0] 46)).alloc (by simp) (.cells #[.int .u8 0, .int .u8 0, .int .u8 0, .int .u8 0, .int .u8 0, .int .u8 0] 46)).trans (b1.mono (by simp; omega))
  go_wp2_with fail
  refine (hexRowFrom_ok A2 n2 e0 e1 e2 e3 e4 e5 _ (((hr2.below b1').alloc (by omega) _).more (by simp; omega)) g0 g1 g2 g3 g4 g5).mono ?_
  rintro e w2 ⟨rfl, b2⟩
  have hs2 := b2.size
  simp at hs2
  have Q := (((Blk.new w 46 #[.int .u8 0, .int .u8 0, .int .u8 0, .int .u8 0, .int .u8 0, .int .u8 0]).alloc (.cells #[.int .u8 0, .int .u8 0, .int .u8 0, .int .u8 0, .int .u8 0, .int .u8 0] 46)).below b1 (by simp only [alloc_sz]; omega)).alloc (.cells #[.int .u8 d0, .int .u8 d1, .int .u8 d2, .int .u8 d3, .int .u8 d4, .int .u8 d5] 46) |>.below b2 (by simp only [alloc_sz]; omega)
  have R := ((Blk.new (w.alloc (.cells #[.int .u8 0, .int .u8 0, .int .u8 0, .int .u8 0, .int .u8 0, .int .u8 0] 46)) 46 #[.int .u8 0, .int .u8 0, .int .u8 0, .int .u8 0, .int .u8 0, .int .u8 0]).below b1 (by simp only [alloc_sz]; omega)).alloc (.cells #[.int .u8 d0, .int .u8 d1, .int .u8 d2, .int .u8 d3, .int .u8 d4, .int .u8 d5] 46) |>.below b2 (by simp only [alloc_sz]; omega)
  have S := (Blk.new w1 46 #[.int .u8 d0, .int .u8 d1, .int .u8 d2, .int .u8 d3, .int .u8 d4, .int .u8 d5]).below b2 (by simp only [alloc_sz]; omega)
  simp only [alloc_sz] at R
  obtain ⟨q0, q1, q2, q3, q4, q5, qf⟩ := Q.six
  obtain ⟨r0, r1, r2, r3, r4, r5, rf⟩ := R.six
  obtain ⟨s0, s1, s2, s3, s4, s5, sf⟩ := S.six
  have B2 := Lib.hid ((b1'.alloc (by omega) (.cells #[.int .u8 d0, .int .u8 d1, .int .u8 d2, .int .u8 d3, .int .u8 d4, .int .u8 d5] 46)).trans (b2.mono (by simp only [alloc_sz]; omega)))
  have HQ := Lib.hid Q
  have HR := Lib.hid R
  clear b1' hr hr2 Q R S b1 b2
  have n1 : w.heap.size < w2.heap.size := by omega
  have n2 : w.heap.size + 1 < w2.heap.size := by omega
  have n3 : w1.heap.size < w2.heap.size := by omega
  go_wp2_with fail
  go_region
  all_goals
    repeat go_step
    refine bodyPost_ret (results_cct (t := 46) (t2 := 46) rfl rfl rfl rfl ((((HQ.out.set6).far6 (by omega)).alloc _).drew) ((((HR.out.far6 (by omega)).set6).alloc _).drew) Tryd.underlying46 rfl rowInfo Tryd.underlying46 rfl rowInfo) rfl ⟨rfl, ?_⟩
    exact ((below_set6 (below_set6 B2.out (Nat.le_refl _)) (by omega)).alloc (by have := B2.out.size; simpa [World.setCell] using this) _).drew
set_option maxHeartbeats 1000000 in
theorem twoHexRowsFrom_no1 (A A2 : Option Addr) (n n2 : Nat) (xs ys : List Int) (w : World) (hr : Rds w w.heap.size .i64 A xs) (hx : xs.length ≤ maxLen) (hn : ¬ IsRow6 xs) :
    Calls Tryd.prog 40 #[.slice A xs.length n, .slice A2 ys.length n2] w fun r w' => r = .returned (.tuple #[noRow, noRow, .bool false]) ∧ Below w.heap.size w w' := by
  go_enter Tryd.func40, Tryd.ntmps40
  go_wp2_with fail
  refine (hexRowFrom_no A n xs _ ((hr.alloc (Nat.le_refl _) _).alloc (by simp) _ |>.more (by simp; omega)) hx hn).mono ?_
  rintro e w1 ⟨rfl, b1⟩
  unfold noRow
  have hs1 := b1.size
  simp at hs1
  have B1 := Lib.hid ((((Below.refl w.heap.size w).alloc (Nat.le_refl _) (.cells #[.int .u8 0, .int .u8 0, .int .u8 0, .int .u8 0, .int .u8 0, .int .u8 0] 46)).alloc (by simp) (.cells #[.int .u8 0, .int .u8 0, .int .u8 0, .int .u8 0, .int .u8 0, .int .u8 0] 46)).trans (b1.mono (by simp; omega)))
  have Q := ((Blk.new w 46 #[.int .u8 0, .int .u8 0, .int .u8 0, .int .u8 0, .int .u8 0, .int .u8 0]).alloc (.cells #[.int .u8 0, .int .u8 0, .int .u8 0, .int .u8 0, .int .u8 0, .int .u8 0] 46)).below b1 (by simp only [alloc_sz]; omega)
  have R := (Blk.new (w.alloc (.cells #[.int .u8 0, .int .u8 0, .int .u8 0, .int .u8 0, .int .u8 0, .int .u8 0] 46)) 46 #[.int .u8 0, .int .u8 0, .int .u8 0, .int .u8 0, .int .u8 0, .int .u8 0]).below b1 (by simp only [alloc_sz]; omega)
  simp only [alloc_sz] at R
  obtain ⟨q0, q1, q2, q3, q4, q5, qf⟩ := Q.six
  obtain ⟨r0, r1, r2, r3, r4, r5, rf⟩ := R.six
  have HQ := Lib.hid Q
  have HR := Lib.hid R
  clear hr Q R b1
  have n1 : w.heap.size < w1.heap.size := by omega
  have n2 : w.heap.size + 1 < w1.heap.size := by omega
  simp only []
  repeat (first | go_step | go_guarded | go_skip)
  all_goals
    refine bodyPost_ret (results_cct (t := 46) (t2 := 46) rfl rfl rfl rfl ((((HQ.out.set6).far6 (by omega)).alloc _)) ((((HR.out.far6 (by omega)).set6).alloc _)) Tryd.underlying46 rfl rowInfo Tryd.underlying46 rfl rowInfo) rfl ⟨rfl, ?_⟩
    exact ((below_set6 (below_set6 B1.out (Nat.le_refl _)) (by omega)).alloc (by have := B1.out.size; simpa [World.setCell] using this) _)
set_option maxHeartbeats 1000000 in
theorem twoHexRowsFrom_no2 (A A2 : Option Addr) (n n2 : Nat) (ys : List Int) (d0 d1 d2 d3 d4 d5 : Int) (w : World) (hr : Rds w w.heap.size .i64 A [d0, d1, d2, d3, d4, d5]) (hr2 : Rds w w.heap.size .i64 A2 ys) (hy : ys.length ≤ maxLen) (hn : ¬ IsRow6 ys) (h0 : IsD d0) (h1 : IsD d1) (h2 : IsD d2) (h3 : IsD d3) (h4 : IsD d4) (h5 : IsD d5) :
    Calls Tryd.prog 40 #[.slice A 6 n, .slice A2 ys.length n2] w fun r w' => r = .returned (.tuple #[noRow, noRow, .bool false]) ∧ Below w.heap.size w w' := by
  go_enter Tryd.func40, Tryd.ntmps40
  go_wp2_with fail
  refine (hexRowFrom_ok A n d0 d1 d2 d3 d4 d5 _ ((hr.alloc (Nat.le_refl _) _).alloc (by simp) _ |>.more (by simp; omega)) h0 h1 h2 h3 h4 h5).mono ?_
  rintro e w1 ⟨rfl, b1⟩
  have hs1 := b1.size
  simp at hs1
  have b1' := (((Below.refl w.heap.size w).alloc (Nat.le_refl _) (.cells #[.int .u8 0, .int .u8 0, .int .u8 0, .int .u8 0, .int .u8 0, .int .u8 0] 46)).alloc (by simp) (.cells #[.int .u8 0, .int .u8 0, .int .u8 0, .int .u8 0, .int .u8 0, .int .u8 0] 46)).trans (b1.mono (by simp; omega))
  go_wp2_with fail
  refine (hexRowFrom_no A2 n2 ys _ (((hr2.below b1').alloc (by omega) _).more (by simp; omega)) hy hn).mono ?_
  rintro e w2 ⟨rfl, b2⟩
  unfold noRow
  have hs2 := b2.size
  simp at hs2
  have Q := (((Blk.new w 46 #[.int .u8 0, .int .u8 0, .int .u8 0, .int .u8 0, .int .u8 0, .int .u8 0]).alloc (.cells #[.int .u8 0, .int .u8 0, .int .u8 0, .int .u8 0, .int .u8 0, .int .u8 0] 46)).below b1 (by simp only [alloc_sz]; omega)).alloc (.cells #[.int .u8 d0, .int .u8 d1, .int .u8 d2, .int .u8 d3, .int .u8 d4, .int .u8 d5] 46) |>.below b2 (by simp only [alloc_sz]; omega)
  have R := ((Blk.new (w.alloc (.cells #[.int .u8 0, .int .u8 0, .int .u8 0, .int .u8 0, .int .u8 0, .int .u8 0] 46)) 46 #[.int .u8 0, .int .u8 0, .int .u8 0, .int .u8 0, .int .u8 0, .int .u8 0]).below b1 (by simp only [alloc_sz]; omega)).alloc (.cells #[.int .u8 d0, .int .u8 d1, .int .u8 d2, .int .u8 d3, .int .u8 d4, .int .u8 d5] 46) |>.below b2 (by simp only [alloc_sz]; omega)
  simp only [alloc_sz] at R
  obtain ⟨q0, q1, q2, q3, q4, q5, qf⟩ := Q.six
  obtain ⟨r0, r1, r2, r3, r4, r5, rf⟩ := R.six
  have B2 := Lib.hid ((b1'.alloc (by omega) (.cells #[.int .u8 d0, .int .u8 d1, .int .u8 d2, .int .u8 d3, .int .u8 d4, .int .u8 d5] 46)).trans (b2.mono (by simp only [alloc_sz]; omega)))
  have HQ := Lib.hid Q
  have HR := Lib.hid R
  clear b1' hr hr2 Q R b1 b2
  have n1 : w.heap.size < w2.heap.size := by omega
  have n2 : w.heap.size + 1 < w2.heap.size := by omega
  have n3 : w1.heap.size < w2.heap.size := by omega
  simp only []
  repeat (first | go_step | go_guarded | go_skip)
  all_goals
    refine bodyPost_ret (results_cct (t := 46) (t2 := 46) rfl rfl rfl rfl ((((HQ.out.set6).far6 (by omega)).alloc _)) ((((HR.out.far6 (by omega)).set6).alloc _)) Tryd.underlying46 rfl rowInfo Tryd.underlying46 rfl rowInfo) rfl ⟨rfl, ?_⟩
    exact ((below_set6 (below_set6 B2.out (Nat.le_refl _)) (by omega)).alloc (by have := B2.out.size; simpa [World.setCell] using this) _)
set_option maxHeartbeats 1000000 in
theorem hexRow_add_calls (d0 d1 d2 d3 d4 d5 : Int) (e0 e1 e2 e3 e4 e5 : Int) (w : World) (h0 : IsD d0) (h1 : IsD d1) (h2 : IsD d2) (h3 : IsD d3) (h4 : IsD d4) (h5 : IsD d5) (g0 : IsD e0) (g1 : IsD e1) (g2 : IsD e2) (g3 : IsD e3) (g4 : IsD e4) (g5 : IsD e5) :
    Calls Tryd.prog 41 #[.agg #[.int .u8 d0, .int .u8 d1, .int .u8 d2, .int .u8 d3, .int .u8 d4, .int .u8 d5], .agg #[.int .u8 e0, .int .u8 e1, .int .u8 e2, .int .u8 e3, .int .u8 e4, .int .u8 e5]] w fun r w' => r = .returned (.agg #[.int .u8 (xorI d0 e0), .int .u8 (xorI d1 e1), .int .u8 (xorI d2 e2), .int .u8 (xorI d3 e3), .int .u8 (xorI d4 e4), .int .u8 (xorI d5 e5)]) ∧ Below w.heap.size w w' := by
  have I0 := idx0 (.int .u8 e0) (.int .u8 e1) (.int .u8 e2) (.int .u8 e3) (.int .u8 e4) (.int .u8 e5)
  have I1 := idx1 (.int .u8 e0) (.int .u8 e1) (.int .u8 e2) (.int .u8 e3) (.int .u8 e4) (.int .u8 e5)
  have I2 := idx2 (.int .u8 e0) (.int .u8 e1) (.int .u8 e2) (.int .u8 e3) (.int .u8 e4) (.int .u8 e5)
  have I3 := idx3 (.int .u8 e0) (.int .u8 e1) (.int .u8 e2) (.int .u8 e3) (.int .u8 e4) (.int .u8 e5)
  have I4 := idx4 (.int .u8 e0) (.int .u8 e1) (.int .u8 e2) (.int .u8 e3) (.int .u8 e4) (.int .u8 e5)
  have I5 := idx5 (.int .u8 e0) (.int .u8 e1) (.int .u8 e2) (.int .u8 e3) (.int .u8 e4) (.int .u8 e5)
  have X0 := xorI_d h0 g0
  have X1 := xorI_d h1 g1
  have X2 := xorI_d h2 g2
  have X3 := xorI_d h3 g3
  have X4 := xorI_d h4 g4
  have X5 := xorI_d h5 g5
  go_enter Tryd.func41, Tryd.ntmps41
  go_wp2
  refine wp_loop_rounds 7 ?_
  iterate 7 (rw [rounds_succ]; go_wp2_with (go_at_call 58; refine (digit_add _ _ _ (by assumption) (by assumption)).mono ?_; rintro e w' ⟨rfl, rfl⟩))
  exact bodyPost_ret (v := .agg #[.int .u8 (xorI d0 e0), .int .u8 (xorI d1 e1), .int .u8 (xorI d2 e2), .int .u8 (xorI d3 e3), .int .u8 (xorI d4 e4), .int .u8 (xorI d5 e5)]) (by simp [results, Tryd.results41, go_sem]) rfl ⟨rfl, (((Below.refl _ _).alloc (Nat.le_refl _) _).alloc (by simp) _).alloc (by simp; omega) _⟩
theorem wtTo6 (d0 d1 d2 d3 d4 d5 : Int) : wtR [d0, d1, d2, d3, d4, d5] = 0 + nz d0 + nz d1 + nz d2 + nz d3 + nz d4 + nz d5 := rfl
def wtK (xs : List Int) (k : Nat) : Int := wtR (xs.take k)
theorem wtK_step (d0 d1 d2 d3 d4 d5 : Int) (k : Nat) (hk : k < 6) : wtK [d0, d1, d2, d3, d4, d5] (k + 1) = wtK [d0, d1, d2, d3, d4, d5] k + nz ([d0, d1, d2, d3, d4, d5].getD k 0) := by
  match k, hk with
  | 0, _ => simp [wtK, wtR]
  | 1, _ => simp [wtK, wtR]
  | 2, _ => simp [wtK, wtR]
  | 3, _ => simp [wtK, wtR]
  | 4, _ => simp [wtK, wtR]
  | 5, _ => simp [wtK, wtR]
theorem wtK_range (d0 d1 d2 d3 d4 d5 : Int) (k : Nat) (hk : k ≤ 6) : 0 ≤ wtK [d0, d1, d2, d3, d4, d5] k ∧ wtK [d0, d1, d2, d3, d4, d5] k ≤ k := by
  induction k with
  | zero => simp [wtK, wtR]
  | succ k ih =>
    have := ih (by omega)
    have := nz_01 ([d0, d1, d2, d3, d4, d5].getD k 0)
    rw [wtK_step _ _ _ _ _ _ k (by omega)]
    omega
theorem mk6 (W : World) : (Instr.makeSlice 24 (.int .i64 6) (.int .i64 6)).run Tryd.prog W = .ok (.slice (some ⟨W.heap.size, 0, none⟩) 6 6) (W.alloc (.cells #[.int .i64 0, .int .i64 0, .int .i64 0, .int .i64 0, .int .i64 0, .int .i64 0] 3)) := by kernel_rfl
theorem own_six {w : World} {B g : Nat} (d0 d1 d2 d3 d4 d5 : Int) (hg : Blk w g 3 #[.int .i64 d0, .int .i64 d1, .int .i64 d2, .int .i64 d3, .int .i64 d4, .int .i64 d5]) (hB : B ≤ g) : Own w B (.slice (some ⟨g, 0, none⟩) 6 6) [d0, d1, d2, d3, d4, d5] :=
  ⟨rfl, .inr ⟨g, 6, _, rfl, hB, hg, by simp, by unfold maxLen; omega, by simp, by simp [vals]⟩⟩
set_option maxHeartbeats 2000000 in
theorem hexRow_list_calls (d0 d1 d2 d3 d4 d5 : Int) (w : World) (h0 : IsD d0) (h1 : IsD d1) (h2 : IsD d2) (h3 : IsD d3) (h4 : IsD d4) (h5 : IsD d5) :
    Calls Tryd.prog 35 #[.agg #[.int .u8 d0, .int .u8 d1, .int .u8 d2, .int .u8 d3, .int .u8 d4, .int .u8 d5]] w fun r w' => ∃ v, r = .returned v ∧ Own w' w.heap.size v [d0, d1, d2, d3, d4, d5] ∧ Below w.heap.size w w' := by
  have I0 := idx0 (.int .u8 d0) (.int .u8 d1) (.int .u8 d2) (.int .u8 d3) (.int .u8 d4) (.int .u8 d5)
  have I1 := idx1 (.int .u8 d0) (.int .u8 d1) (.int .u8 d2) (.int .u8 d3) (.int .u8 d4) (.int .u8 d5)
  have I2 := idx2 (.int .u8 d0) (.int .u8 d1) (.int .u8 d2) (.int .u8 d3) (.int .u8 d4) (.int .u8 d5)
  have I3 := idx3 (.int .u8 d0) (.int .u8 d1) (.int .u8 d2) (.int .u8 d3) (.int .u8 d4) (.int .u8 d5)
  have I4 := idx4 (.int .u8 d0) (.int .u8 d1) (.int .u8 d2) (.int .u8 d3) (.int .u8 d4) (.int .u8 d5)
  have I5 := idx5 (.int .u8 d0) (.int .u8 d1) (.int .u8 d2) (.int .u8 d3) (.int .u8 d4) (.int .u8 d5)
  obtain ⟨x0, y0⟩ := h0
  obtain ⟨x1, y1⟩ := h1
  obtain ⟨x2, y2⟩ := h2
  obtain ⟨x3, y3⟩ := h3
  obtain ⟨x4, y4⟩ := h4
  obtain ⟨x5, y5⟩ := h5
  have HM := mk6
  go_enter Tryd.func35, Tryd.ntmps35
  go_wp2
  refine wp_loop_rounds 7 ?_
  iterate 7 (rw [rounds_succ]; go_wp2)
  go_ret
  refine ⟨_, rfl, own_six _ _ _ _ _ _ (Blk.new1 _ _ _ _) (by omega), ((Below.refl _ _).alloc (Nat.le_refl _) _).alloc (by simp) _⟩
end Go.Proofs.YtphdemabkhmpoaaDoor
