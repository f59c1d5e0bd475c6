import Derived.Test.YtakefnfhjiodnaaDoorQ4
import Derived.Deep.QuietTactic
import Derived.BigQuiet
import Derived.ChangeKeysEq
/- Contracts of the program's products of digits, out of its table. -/
namespace Go.Proofs.YtakefnfhjiodnaaDoor
open Go.RowKit
set_option linter.unusedVariables false

def prodRows : List (List Int) := [[0, 0, 0, 0], [0, 1, 2, 3], [0, 2, 3, 1], [0, 3, 1, 2]]
def prodT : List Int := [0, 0, 0, 0, 0, 1, 2, 3, 0, 2, 3, 1, 0, 3, 1, 2]
def prodG : Nat := 1
/-- The table of products in memory. -/
def TabP (w : World) : Prop := ∀ j, j < 16 → w.cell? ⟨1, j, none⟩ = some (.int .u8 (prodT.getD j 0))
theorem TabP.below {w w' : World} {B : Nat} (h : TabP w) (hb : Below B w w') (h0 : prodG < B) : TabP w' := fun j hj => (hb.cell (p := ⟨1, j, none⟩) h0).trans (h j hj)
theorem TabP.lt {w : World} (h : TabP w) : prodG < w.heap.size := World.block_lt_of_cell? w ⟨1, 0, none⟩ (h 0 (by decide))
theorem TabP.drewN {w : World} (h : TabP w) (k : Nat) : TabP (w.drewN k) := h
theorem TabP.alloc {w : World} (h : TabP w) (o : Obj) : TabP (w.alloc o) := h.below ((Below.refl _ _).alloc (Nat.le_refl _) o) h.lt
theorem prodT_all : ∀ a b : Fin 4, prodT.getD (4 * a.val + b.val) 0 = mulD (a.val : Int) (b.val : Int) := by decide
theorem digit_times (a b : Int) (w : World) (ha : IsD a) (hb : IsD b) (hT : TabP w) :
    Calls Tryd.prog 92 #[.int .u8 a, .int .u8 b] w fun e w' => e = .returned (.int .u8 (mulD a b)) ∧ w = w' := by
  obtain ⟨a, rfl⟩ := ha.fin
  obtain ⟨b, rfl⟩ := hb.fin
  have hp := prodT_all a b
  have hc := hT (4 * a.val + b.val) (by omega)
  rw [hp] at hc
  have hc' : w.cell? ⟨1, a.val * 4 + b.val, none⟩ = some (.int .u8 (mulD (a.val : Int) (b.val : Int))) := by rw [Nat.mul_comm]; exact hc
  have ha' := a.isLt
  have hb' := b.isLt
  obtain ⟨A, hA⟩ := a
  obtain ⟨B, hB⟩ := b
  generalize mulD _ _ = m at *
  simp only at *
  clear hp ha hb hT
  go_enter Tryd.func92, Tryd.ntmps92
  go_wp2
  go_ret
  exact ⟨rfl, rfl⟩
theorem digit_mirror (a : Int) (w : World) (ha : IsD a) (hT : TabP w) :
    Calls Tryd.prog 140 #[.int .u8 a] w fun e w' => e = .returned (.int .u8 (sq a)) ∧ w = w' := by
  go_enter Tryd.func140, Tryd.ntmps140
  go_wp2_with (go_at_call 92; refine (digit_times _ _ _ ha ha hT).mono ?_; rintro e w' ⟨rfl, rfl⟩)
  go_ret
  exact ⟨rfl, rfl⟩
set_option maxHeartbeats 2000000 in
theorem hexRowOf_calls (a b c : Int) (w : World) (ha : IsD a) (hb : IsD b) (hc : IsD c) (hT : TabP w) :
    Calls Tryd.prog 126 #[.int .u8 a, .int .u8 b, .int .u8 c] w fun r w' => r = .returned (.agg #[.int .u8 a, .int .u8 b, .int .u8 c, .int .u8 (hexF a b c 1), .int .u8 (hexF a b c 2), .int .u8 (hexF a b c 3)]) ∧ Below w.heap.size w w' := by
  have e1 : hexF a b c 1 = xorI (xorI (mulD a (sq 1)) (mulD b 1)) c := rfl
  have e2 : hexF a b c 2 = xorI (xorI (mulD a (sq 2)) (mulD b 2)) c := rfl
  have e3 : hexF a b c 3 = xorI (xorI (mulD a (sq 3)) (mulD b 3)) c := rfl
  have D1 : IsD 1 := ⟨by omega, by omega⟩
  have D2 : IsD 2 := ⟨by omega, by omega⟩
  have D3 : IsD 3 := ⟨by omega, by omega⟩
  rw [e1, e2, e3]
  clear e1 e2 e3
  go_enter Tryd.func126, Tryd.ntmps126
  go_wp2
  refine wp_loop_rounds 4 ?_
  iterate 4 (rw [rounds_succ]; go_wp2_with (first
    | (go_at_call 140; refine (digit_mirror _ _ (by repeat (first | assumption | apply sq_d | apply mulD_d | apply xorI_d)) (by repeat (first | assumption | apply TabP.alloc))).mono ?_; rintro e w' ⟨rfl, rfl⟩)
    | (go_at_call 92; refine (digit_times _ _ _ (by repeat (first | assumption | apply sq_d | apply mulD_d | apply xorI_d)) (by repeat (first | assumption | apply sq_d | apply mulD_d | apply xorI_d)) (by repeat (first | assumption | apply TabP.alloc))).mono ?_; rintro e w' ⟨rfl, rfl⟩)
    | (go_at_call 85; refine (digit_add _ _ _ (by repeat (first | assumption | apply sq_d | apply mulD_d | apply xorI_d)) (by repeat (first | assumption | apply sq_d | apply mulD_d | apply xorI_d))).mono ?_; rintro e w' ⟨rfl, rfl⟩)))
  exact bodyPost_ret (v := .agg #[.int .u8 a, .int .u8 b, .int .u8 c, .int .u8 (xorI (xorI (mulD a (sq 1)) (mulD b 1)) c), .int .u8 (xorI (xorI (mulD a (sq 2)) (mulD b 2)) c), .int .u8 (xorI (xorI (mulD a (sq 3)) (mulD b 3)) c)]) (by simp [results, Tryd.results126, go_sem]) rfl ⟨rfl, ((Below.refl _ _).alloc (Nat.le_refl _) _).alloc (by simp) _⟩
set_option maxHeartbeats 2000000 in
theorem hexRow_times_calls (d0 d1 d2 d3 d4 d5 : Int) (n : Int) (w : World) (h0 : IsD d0) (h1 : IsD d1) (h2 : IsD d2) (h3 : IsD d3) (h4 : IsD d4) (h5 : IsD d5) (hn : IsD n) (hT : TabP w) :
    Calls Tryd.prog 94 #[.agg #[.int .u8 d0, .int .u8 d1, .int .u8 d2, .int .u8 d3, .int .u8 d4, .int .u8 d5], .int .u8 n] w fun r w' => r = .returned (.agg #[.int .u8 (mulD d0 n), .int .u8 (mulD d1 n), .int .u8 (mulD d2 n), .int .u8 (mulD d3 n), .int .u8 (mulD d4 n), .int .u8 (mulD d5 n)]) ∧ Below w.heap.size w w' := by
  go_enter Tryd.func94, Tryd.ntmps94
  go_wp2
  refine wp_loop_rounds 7 ?_
  iterate 7 (rw [rounds_succ]; go_wp2_with (first
    | (go_at_call 140; refine (digit_mirror _ _ (by repeat (first | assumption | apply sq_d | apply mulD_d | apply xorI_d)) (by repeat (first | assumption | apply TabP.alloc))).mono ?_; rintro e w' ⟨rfl, rfl⟩)
    | (go_at_call 92; refine (digit_times _ _ _ (by repeat (first | assumption | apply sq_d | apply mulD_d | apply xorI_d)) (by repeat (first | assumption | apply sq_d | apply mulD_d | apply xorI_d)) (by repeat (first | assumption | apply TabP.alloc))).mono ?_; rintro e w' ⟨rfl, rfl⟩)
    | (go_at_call 85; refine (digit_add _ _ _ (by repeat (first | assumption | apply sq_d | apply mulD_d | apply xorI_d)) (by repeat (first | assumption | apply sq_d | apply mulD_d | apply xorI_d))).mono ?_; rintro e w' ⟨rfl, rfl⟩)))
  exact bodyPost_ret (v := .agg #[.int .u8 (mulD d0 n), .int .u8 (mulD d1 n), .int .u8 (mulD d2 n), .int .u8 (mulD d3 n), .int .u8 (mulD d4 n), .int .u8 (mulD d5 n)]) (by simp [results, Tryd.results94, go_sem]) rfl ⟨rfl, ((Below.refl _ _).alloc (Nat.le_refl _) _).alloc (by simp) _⟩
end Go.Proofs.YtakefnfhjiodnaaDoor
/- Contracts of what the program asks of rows: whether they are in the hexacode, inner products, the nearest row. -/
namespace Go.Proofs.YtakefnfhjiodnaaDoor
open Go.RowKit
set_option linter.unusedVariables false

theorem eq_rows (a0 a1 a2 a3 a4 a5 b0 b1 b2 b3 b4 b5 : Int) (W : World) : (Op.equalIn 10000 79 (.agg #[.int .u8 a0, .int .u8 a1, .int .u8 a2, .int .u8 a3, .int .u8 a4, .int .u8 a5]) (.agg #[.int .u8 b0, .int .u8 b1, .int .u8 b2, .int .u8 b3, .int .u8 b4, .int .u8 b5])).run Tryd.prog W = .ok (eqR [a0, a1, a2, a3, a4, a5] [b0, b1, b2, b3, b4, b5]) W := by
  have h0 : (Tryd.prog.info? 77).map (·.size) = some 1 := by kernel_rfl
  obtain ⟨i, hi, hs⟩ := Option.map_eq_some_iff.1 h0
  have hc : Tryd.prog.cellsOf 77 = 1 := by kernel_rfl
  rw [show (10000 : Nat) = 9998 + 1 + 1 from rfl, run_equalIn_array W (9998 + 1) _ _ Tryd.underlying79 hi, hc]
  simp only [List.range, List.range.loop, Op.eqItems]
  have u5 := Tryd.underlying77
  go_simp
  unfold eqR
  repeat' split
  all_goals simp_all
theorem quiet_add_left {P : Program} {f : FuncId} {args : Array Value} {w : World} {a n : Nat} {v : Value}
    (h : Calls P f args (w.drewN (a + n)) fun e w' => e = .returned v ∧ w.drewN (a + n) = w') :
    Calls P f args (w.drewN (a + n)) fun e w'' => e = .returned v ∧ ∃ m, w'' = w.drewN (a + m) :=
  h.mono fun _ _ ⟨he, hm⟩ => ⟨he, n, hm.symm⟩
theorem quiet_left {P : Program} {f : FuncId} {args : Array Value} {w : World} {n : Nat} {v : Value}
    (h : Calls P f args (w.drewN n) fun e w' => e = .returned v ∧ w.drewN n = w') : Calls P f args (w.drewN n) fun e w'' => e = .returned v ∧ ∃ m, w'' = w.drewN m :=
  h.mono fun _ _ ⟨he, hm⟩ => ⟨he, n, hm.symm⟩
end Go.Proofs.YtakefnfhjiodnaaDoor
/- Contracts of the exported functions of chapter 2 that go through the table. -/
namespace Go.Proofs.YtakefnfhjiodnaaDoor
open Go.RowKit
set_option linter.unusedVariables false

def digB (n : Int) : Bool := decide (0 ≤ n ∧ n ≤ 3)
theorem digB_iff (n : Int) : digB n = true ↔ IsD n := by simp [digB, IsD]
theorem digB_no (n : Int) : digB n = false ↔ NoD n := by unfold digB NoD; simp; omega
def dMul (a b : Int) : Int := if digB a && digB b then mulD a b else -1
def hOf (a b c : Int) : List Int × Bool := if digB a && (digB b && digB c) then (hexRow a b c, true) else ([], false)
def hIn (xs : List Int) : Bool := rowB xs && hexB xs
def hTimes (xs : List Int) (n : Int) : List Int × Bool := if rowB xs && digB n then (mulR xs n, true) else ([], false)
def hInner (xs ys : List Int) : Int := if rowB xs && rowB ys then innR xs ys else -1
def hNear (xs : List Int) : List Int × Int × Bool := if rowB xs then ((nearTo xs 64).1, (nearTo xs 64).2, true) else ([], 0, false)
def GotLN (w : World) (xs : List Int) (n : Int) (b : Bool) (e : Ending) (w' : World) : Prop := ∃ v, e = .returned (.tuple #[v, .int .i64 n, .bool b]) ∧ Own w' w.heap.size v xs ∧ Below w.heap.size w w'
set_option maxHeartbeats 1000000 in
theorem iHexTimes_calls (A : Option Addr) (c : Nat) (xs : List Int) (n : Int) (w : World) (ha : Rds w w.heap.size .i64 A xs) (hx : xs.length ≤ maxLen) (hT : TabP w) :
    Calls Tryd.prog 48 #[.slice A xs.length c, .int .i64 n] w (GotL w (hTimes xs n).1 (hTimes xs n).2) := by
  rcases hb : rowB xs with _ | _
  · rw [show hTimes xs n = ([], false) by simp [hTimes, hb]]
    go_enter Tryd.func48, Tryd.ntmps48
    go_wp2_with fail
    refine (hexRowFrom_no _ _ xs _ ha hx ((rowB_no xs).1 hb)).mono ?_
    rintro e w1 ⟨rfl, b1⟩
    clear hb
    unfold noRow
    go_wp2_with fail
    go_ret2
    exact ⟨_, rfl, Own.nil_ _ _, b1.alloc b1.size _⟩
  · obtain ⟨d0, d1, d2, d3, d4, d5, rfl, h0, h1, h2, h3, h4, h5⟩ := ((rowB_iff xs).1 hb).six
    rcases isD_or n with hn | hn
    · rw [show hTimes [d0, d1, d2, d3, d4, d5] n = ([mulD d0 n, mulD d1 n, mulD d2 n, mulD d3 n, mulD d4 n, mulD d5 n], true) by simp [hTimes, hb, (digB_iff _).2 hn, mulR]]
      clear hb hx
      show Calls _ _ #[.slice _ 6 _, _] _ _
      go_enter Tryd.func48, Tryd.ntmps48
      go_wp2_with fail
      refine (hexRowFrom_ok _ _ d0 d1 d2 d3 d4 d5 _ ha h0 h1 h2 h3 h4 h5).mono ?_
      rintro e w1 ⟨rfl, b1⟩
      have s1 := b1.size
      have hT1 := (hT.below b1 hT.lt).alloc (.cells #[.int .u8 d0, .int .u8 d1, .int .u8 d2, .int .u8 d3, .int .u8 d4, .int .u8 d5] 79)
      go_wp2_with fail
      refine (digitFrom_ok _ _ hn).mono ?_
      rintro e w' ⟨rfl, rfl⟩
      go_wp2_with fail
      refine (hexRow_times_calls d0 d1 d2 d3 d4 d5 n _ h0 h1 h2 h3 h4 h5 hn hT1).mono ?_
      rintro e w2 ⟨rfl, b2⟩
      have s2 := b2.size
      simp only [alloc_sz] at s2
      go_wp2_with fail
      refine (hexRow_list_calls _ _ _ _ _ _ _ (mulD_d h0 hn) (mulD_d h1 hn) (mulD_d h2 hn) (mulD_d h3 hn) (mulD_d h4 hn) (mulD_d h5 hn)).mono ?_
      rintro e w3 ⟨v, rfl, o3, b3⟩
      go_wp2_with fail
      go_ret2
      exact ⟨v, rfl, o3.weak (by omega), (b1.alloc s1 _).trans ((b2.mono (by simp only [alloc_sz]; omega)).trans (b3.mono (by omega)))⟩
    · rw [show hTimes [d0, d1, d2, d3, d4, d5] n = ([], false) by simp [hTimes, (digB_no _).2 hn]]
      clear hb hx
      show Calls _ _ #[.slice _ 6 _, _] _ _
      go_enter Tryd.func48, Tryd.ntmps48
      go_wp2_with fail
      refine (hexRowFrom_ok _ _ d0 d1 d2 d3 d4 d5 _ ha h0 h1 h2 h3 h4 h5).mono ?_
      rintro e w1 ⟨rfl, b1⟩
      have s1 := b1.size
      go_wp2_with fail
      refine (digitFrom_no _ _ hn).mono ?_
      rintro e w' ⟨rfl, rfl⟩
      go_wp2_with fail
      go_ret2
      exact ⟨_, rfl, Own.nil_ _ _, b1.alloc s1 _⟩
end Go.Proofs.YtakefnfhjiodnaaDoor