import Derived.Test.YtcfhfllcdliaoaaGreatDoorQ4
import Derived.Deep.QuietTactic
import Derived.BigQuiet
import Derived.ChangeKeysEq
/- Contracts of the program's products of digits, out of its table. -/
namespace Go.Proofs.YtcfhfllcdliaoaaGreatDoor
open Go.RowKit
set_option linter.unusedVariables false

def prodRows : List (List Int) := [[0, 0, 0, 0], [0, 1, 2, 3], [0, 2, 3, 1], [0, 3, 1, 2]]
def prodT : List Int := [0, 0, 0, 0, 0, 1, 2, 3, 0, 2, 3, 1, 0, 3, 1, 2]
def prodG : Nat := 3
/-- The table of products in memory. -/
def TabP (w : World) : Prop := ∀ j, j < 16 → w.cell? ⟨3, j, none⟩ = some (.int .u8 (prodT.getD j 0))
theorem TabP.below {w w' : World} {B : Nat} (h : TabP w) (hb : Below B w w') (h0 : prodG < B) : TabP w' := fun j hj => (hb.cell (p := ⟨3, j, none⟩) h0).trans (h j hj)
theorem TabP.lt {w : World} (h : TabP w) : prodG < w.heap.size := World.block_lt_of_cell? w ⟨3, 0, none⟩ (h 0 (by decide))
theorem TabP.drewN {w : World} (h : TabP w) (k : Nat) : TabP (w.drewN k) := h
theorem TabP.alloc {w : World} (h : TabP w) (o : Obj) : TabP (w.alloc o) := h.below ((Below.refl _ _).alloc (Nat.le_refl _) o) h.lt
theorem prodT_all : ∀ a b : Fin 4, prodT.getD (4 * a.val + b.val) 0 = mulD (a.val : Int) (b.val : Int) := by decide
theorem digit_times (a b : Int) (w : World) (ha : IsD a) (hb : IsD b) (hT : TabP w) :
    Calls Tryz.prog 165 #[.int .u8 a, .int .u8 b] w fun e w' => e = .returned (.int .u8 (mulD a b)) ∧ w = w' := by
  obtain ⟨a, rfl⟩ := ha.fin
  obtain ⟨b, rfl⟩ := hb.fin
  have hp := prodT_all a b
  have hc := hT (4 * a.val + b.val) (by omega)
  rw [hp] at hc
  have hc' : w.cell? ⟨3, a.val * 4 + b.val, none⟩ = some (.int .u8 (mulD (a.val : Int) (b.val : Int))) := by rw [Nat.mul_comm]; exact hc
  have ha' := a.isLt
  have hb' := b.isLt
  obtain ⟨A, hA⟩ := a
  obtain ⟨B, hB⟩ := b
  generalize mulD _ _ = m at *
  simp only at *
  clear hp ha hb hT
  go_enter Tryz.func165, Tryz.ntmps165
  go_wp2
  go_ret
  exact ⟨rfl, rfl⟩
theorem digit_mirror (a : Int) (w : World) (ha : IsD a) (hT : TabP w) :
    Calls Tryz.prog 166 #[.int .u8 a] w fun e w' => e = .returned (.int .u8 (sq a)) ∧ w = w' := by
  go_enter Tryz.func166, Tryz.ntmps166
  go_wp2_with (go_at_call 165; refine (digit_times _ _ _ ha ha hT).mono ?_; rintro e w' ⟨rfl, rfl⟩)
  go_ret
  exact ⟨rfl, rfl⟩
set_option maxHeartbeats 2000000 in
theorem hexRowOf_calls (a b c : Int) (w : World) (ha : IsD a) (hb : IsD b) (hc : IsD c) (hT : TabP w) :
    Calls Tryz.prog 115 #[.int .u8 a, .int .u8 b, .int .u8 c] w fun r w' => r = .returned (.agg #[.int .u8 a, .int .u8 b, .int .u8 c, .int .u8 (hexF a b c 1), .int .u8 (hexF a b c 2), .int .u8 (hexF a b c 3)]) ∧ Below w.heap.size w w' := by
  have e1 : hexF a b c 1 = xorI (xorI (mulD a (sq 1)) (mulD b 1)) c := rfl
  have e2 : hexF a b c 2 = xorI (xorI (mulD a (sq 2)) (mulD b 2)) c := rfl
  have e3 : hexF a b c 3 = xorI (xorI (mulD a (sq 3)) (mulD b 3)) c := rfl
  have D1 : IsD 1 := ⟨by omega, by omega⟩
  have D2 : IsD 2 := ⟨by omega, by omega⟩
  have D3 : IsD 3 := ⟨by omega, by omega⟩
  rw [e1, e2, e3]
  clear e1 e2 e3
  go_enter Tryz.func115, Tryz.ntmps115
  go_wp2
  refine wp_loop_rounds 4 ?_
  iterate 4 (rw [rounds_succ]; go_wp2_with (first
    | (go_at_call 166; refine (digit_mirror _ _ (by repeat (first | assumption | apply sq_d | apply mulD_d | apply xorI_d)) (by repeat (first | assumption | apply TabP.alloc))).mono ?_; rintro e w' ⟨rfl, rfl⟩)
    | (go_at_call 165; refine (digit_times _ _ _ (by repeat (first | assumption | apply sq_d | apply mulD_d | apply xorI_d)) (by repeat (first | assumption | apply sq_d | apply mulD_d | apply xorI_d)) (by repeat (first | assumption | apply TabP.alloc))).mono ?_; rintro e w' ⟨rfl, rfl⟩)
    | (go_at_call 167; refine (digit_add _ _ _ (by repeat (first | assumption | apply sq_d | apply mulD_d | apply xorI_d)) (by repeat (first | assumption | apply sq_d | apply mulD_d | apply xorI_d))).mono ?_; rintro e w' ⟨rfl, rfl⟩)))
  exact bodyPost_ret (v := .agg #[.int .u8 a, .int .u8 b, .int .u8 c, .int .u8 (xorI (xorI (mulD a (sq 1)) (mulD b 1)) c), .int .u8 (xorI (xorI (mulD a (sq 2)) (mulD b 2)) c), .int .u8 (xorI (xorI (mulD a (sq 3)) (mulD b 3)) c)]) (by simp [results, Tryz.results115, go_sem]) rfl ⟨rfl, ((Below.refl _ _).alloc (Nat.le_refl _) _).alloc (by simp) _⟩
end Go.Proofs.YtcfhfllcdliaoaaGreatDoor
/- Contracts of what the program asks of rows: whether they are in the hexacode, inner products, the nearest row. -/
namespace Go.Proofs.YtcfhfllcdliaoaaGreatDoor
open Go.RowKit
set_option linter.unusedVariables false

theorem eq_rows (a0 a1 a2 a3 a4 a5 b0 b1 b2 b3 b4 b5 : Int) (W : World) : (Op.equalIn 10000 101 (.agg #[.int .u8 a0, .int .u8 a1, .int .u8 a2, .int .u8 a3, .int .u8 a4, .int .u8 a5]) (.agg #[.int .u8 b0, .int .u8 b1, .int .u8 b2, .int .u8 b3, .int .u8 b4, .int .u8 b5])).run Tryz.prog W = .ok (eqR [a0, a1, a2, a3, a4, a5] [b0, b1, b2, b3, b4, b5]) W := by
  have h0 : (Tryz.prog.info? 99).map (·.size) = some 1 := by kernel_rfl
  obtain ⟨i, hi, hs⟩ := Option.map_eq_some_iff.1 h0
  have hc : Tryz.prog.cellsOf 99 = 1 := by kernel_rfl
  rw [show (10000 : Nat) = 9998 + 1 + 1 from rfl, run_equalIn_array W (9998 + 1) _ _ Tryz.underlying101 hi, hc]
  simp only [List.range, List.range.loop, Op.eqItems]
  have u5 := Tryz.underlying99
  go_simp
  unfold eqR
  repeat' split
  all_goals simp_all
theorem quiet_add_left {P : Program} {f : FuncId} {args : Array Value} {w : World} {a n : Nat} {v : Value}
    (h : Calls P f args (w.drewN (a + n)) fun e w' => e = .returned v ∧ w.drewN (a + n) = w') :
    Calls P f args (w.drewN (a + n)) fun e w'' => e = .returned v ∧ ∃ m, w'' = w.drewN (a + m) :=
  h.mono fun _ _ ⟨he, hm⟩ => ⟨he, n, hm.symm⟩
theorem quiet_left {P : Program} {f : FuncId} {args : Array Value} {w : World} {n : Nat} {v : Value}
    (h : Calls P f args (w.drewN n) fun e w' => e = .returned v ∧ w.drewN n = w') : Calls P f args (w.drewN n) fun e w'' => e = .returned v ∧ ∃ m, w'' = w.drewN m :=
  h.mono fun _ _ ⟨he, hm⟩ => ⟨he, n, hm.symm⟩
end Go.Proofs.YtcfhfllcdliaoaaGreatDoor
/- Contracts of the exported functions of chapter 2 that go through the table. -/
namespace Go.Proofs.YtcfhfllcdliaoaaGreatDoor
open Go.RowKit
set_option linter.unusedVariables false

def digB (n : Int) : Bool := decide (0 ≤ n ∧ n ≤ 3)
theorem digB_iff (n : Int) : digB n = true ↔ IsD n := by simp [digB, IsD]
theorem digB_no (n : Int) : digB n = false ↔ NoD n := by unfold digB NoD; simp; omega
def dMul (a b : Int) : Int := if digB a && digB b then mulD a b else -1
def hOf (a b c : Int) : List Int × Bool := if digB a && (digB b && digB c) then (hexRow a b c, true) else ([], false)
def hIn (xs : List Int) : Bool := rowB xs && hexB xs
def hTimes (xs : List Int) (n : Int) : List Int × Bool := if rowB xs && digB n then (mulR xs n, true) else ([], false)
def hInner (xs ys : List Int) : Int := if rowB xs && rowB ys then innR xs ys else -1
def hNear (xs : List Int) : List Int × Int × Bool := if rowB xs then ((nearTo xs 64).1, (nearTo xs 64).2, true) else ([], 0, false)
def GotLN (w : World) (xs : List Int) (n : Int) (b : Bool) (e : Ending) (w' : World) : Prop := ∃ v, e = .returned (.tuple #[v, .int .i64 n, .bool b]) ∧ Own w' w.heap.size v xs ∧ Below w.heap.size w w'
end Go.Proofs.YtcfhfllcdliaoaaGreatDoor