import Derived.Test.YtcfhfllcdliaoaaGreatDoorQ1
import Derived.Test.YtcfhfllcdliaoaaGreatDoorP1
import Derived.Test.YtcfhfllcdliaoaaGreatDoorM11
import Derived.Test.YtcfhfllcdliaoaaGreatDoorP0
import Derived.Deep.RegionHeld3
import Derived.Deep.AppendLies
/- Contracts of digits and of reading rows of six digits, of the program. -/
namespace Go.Proofs.YtcfhfllcdliaoaaGreatDoor
open Go.RowKit
set_option linter.unusedVariables false

theorem xor_u8 (a b : Int) (ha : IsD a) (hb : IsD b) : bits .xor .u8 a b = xorI a b := by
  obtain ⟨a, rfl⟩ := ha.fin; obtain ⟨b, rfl⟩ := hb.fin
  clear ha hb; revert a b; decide
theorem digit_add (a b : Int) (w : World) (ha : IsD a) (hb : IsD b) :
    Calls Tryz.prog 167 #[.int .u8 a, .int .u8 b] w fun e w' => e = .returned (.int .u8 (xorI a b)) ∧ w = w' := by
  have HF := Lib.hid (xor_u8 a b ha hb)
  go_enter Tryz.func167, Tryz.ntmps167
  go_wp2
  go_ret
  exact ⟨ret_i HF.out, rfl⟩
end Go.Proofs.YtcfhfllcdliaoaaGreatDoor
/- Contracts of rows of six digits, of the program: two rows read, a sum, a weight, a row as a list. -/
namespace Go.Proofs.YtcfhfllcdliaoaaGreatDoor
open Go.RowKit
set_option linter.unusedVariables false

theorem rowInfo : (Tryz.prog.info? 101).map (·.size) = some 6 := by kernel_rfl
theorem Rds.below_more {w w' : World} {B : Nat} {k : IntKind} {A : Option Addr} {xs : List Int} (h : Rds w B k A xs) (hb : Below B w w') (hs : B ≤ w'.heap.size) : Rds w' w'.heap.size k A xs := (h.below hb).more hs
theorem idx0 (v0 v1 v2 v3 v4 v5 : Value) (W : World) : (Instr.index 101 (.agg #[v0, v1, v2, v3, v4, v5]) (.int .i64 0)).run Tryz.prog W = .ok v0 W := by kernel_rfl
theorem idx1 (v0 v1 v2 v3 v4 v5 : Value) (W : World) : (Instr.index 101 (.agg #[v0, v1, v2, v3, v4, v5]) (.int .i64 1)).run Tryz.prog W = .ok v1 W := by kernel_rfl
theorem idx2 (v0 v1 v2 v3 v4 v5 : Value) (W : World) : (Instr.index 101 (.agg #[v0, v1, v2, v3, v4, v5]) (.int .i64 2)).run Tryz.prog W = .ok v2 W := by kernel_rfl
theorem idx3 (v0 v1 v2 v3 v4 v5 : Value) (W : World) : (Instr.index 101 (.agg #[v0, v1, v2, v3, v4, v5]) (.int .i64 3)).run Tryz.prog W = .ok v3 W := by kernel_rfl
theorem idx4 (v0 v1 v2 v3 v4 v5 : Value) (W : World) : (Instr.index 101 (.agg #[v0, v1, v2, v3, v4, v5]) (.int .i64 4)).run Tryz.prog W = .ok v4 W := by kernel_rfl
theorem idx5 (v0 v1 v2 v3 v4 v5 : Value) (W : World) : (Instr.index 101 (.agg #[v0, v1, v2, v3, v4, v5]) (.int .i64 5)).run Tryz.prog W = .ok v5 W := by kernel_rfl
theorem wtTo6 (d0 d1 d2 d3 d4 d5 : Int) : wtR [d0, d1, d2, d3, d4, d5] = 0 + nz d0 + nz d1 + nz d2 + nz d3 + nz d4 + nz d5 := rfl
def wtK (xs : List Int) (k : Nat) : Int := wtR (xs.take k)
theorem wtK_step (d0 d1 d2 d3 d4 d5 : Int) (k : Nat) (hk : k < 6) : wtK [d0, d1, d2, d3, d4, d5] (k + 1) = wtK [d0, d1, d2, d3, d4, d5] k + nz ([d0, d1, d2, d3, d4, d5].getD k 0) := by
  match k, hk with
  | 0, _ => simp [wtK, wtR]
  | 1, _ => simp [wtK, wtR]
  | 2, _ => simp [wtK, wtR]
  | 3, _ => simp [wtK, wtR]
  | 4, _ => simp [wtK, wtR]
  | 5, _ => simp [wtK, wtR]
theorem wtK_range (d0 d1 d2 d3 d4 d5 : Int) (k : Nat) (hk : k ≤ 6) : 0 ≤ wtK [d0, d1, d2, d3, d4, d5] k ∧ wtK [d0, d1, d2, d3, d4, d5] k ≤ k := by
  induction k with
  | zero => simp [wtK, wtR]
  | succ k ih =>
    have := ih (by omega)
    have := nz_01 ([d0, d1, d2, d3, d4, d5].getD k 0)
    rw [wtK_step _ _ _ _ _ _ k (by omega)]
    omega
theorem mk6 (W : World) : (Instr.makeSlice 61 (.int .i64 6) (.int .i64 6)).run Tryz.prog W = .ok (.slice (some ⟨W.heap.size, 0, none⟩) 6 6) (W.alloc (.cells #[.int .i64 0, .int .i64 0, .int .i64 0, .int .i64 0, .int .i64 0, .int .i64 0] 3)) := by kernel_rfl
theorem own_six {w : World} {B g : Nat} (d0 d1 d2 d3 d4 d5 : Int) (hg : Blk w g 3 #[.int .i64 d0, .int .i64 d1, .int .i64 d2, .int .i64 d3, .int .i64 d4, .int .i64 d5]) (hB : B ≤ g) : Own w B (.slice (some ⟨g, 0, none⟩) 6 6) [d0, d1, d2, d3, d4, d5] :=
  ⟨rfl, .inr ⟨g, 6, _, rfl, hB, hg, by simp, by unfold maxLen; omega, by simp, by simp [vals]⟩⟩
set_option maxHeartbeats 2000000 in
theorem hexRow_list_calls (d0 d1 d2 d3 d4 d5 : Int) (w : World) (h0 : IsD d0) (h1 : IsD d1) (h2 : IsD d2) (h3 : IsD d3) (h4 : IsD d4) (h5 : IsD d5) :
    Calls Tryz.prog 185 #[.agg #[.int .u8 d0, .int .u8 d1, .int .u8 d2, .int .u8 d3, .int .u8 d4, .int .u8 d5]] w fun r w' => ∃ v, r = .returned v ∧ Own w' w.heap.size v [d0, d1, d2, d3, d4, d5] ∧ Below w.heap.size w w' := by
  have I0 := idx0 (.int .u8 d0) (.int .u8 d1) (.int .u8 d2) (.int .u8 d3) (.int .u8 d4) (.int .u8 d5)
  have I1 := idx1 (.int .u8 d0) (.int .u8 d1) (.int .u8 d2) (.int .u8 d3) (.int .u8 d4) (.int .u8 d5)
  have I2 := idx2 (.int .u8 d0) (.int .u8 d1) (.int .u8 d2) (.int .u8 d3) (.int .u8 d4) (.int .u8 d5)
  have I3 := idx3 (.int .u8 d0) (.int .u8 d1) (.int .u8 d2) (.int .u8 d3) (.int .u8 d4) (.int .u8 d5)
  have I4 := idx4 (.int .u8 d0) (.int .u8 d1) (.int .u8 d2) (.int .u8 d3) (.int .u8 d4) (.int .u8 d5)
  have I5 := idx5 (.int .u8 d0) (.int .u8 d1) (.int .u8 d2) (.int .u8 d3) (.int .u8 d4) (.int .u8 d5)
  obtain ⟨x0, y0⟩ := h0
  obtain ⟨x1, y1⟩ := h1
  obtain ⟨x2, y2⟩ := h2
  obtain ⟨x3, y3⟩ := h3
  obtain ⟨x4, y4⟩ := h4
  obtain ⟨x5, y5⟩ := h5
  have HM := mk6
  go_enter Tryz.func185, Tryz.ntmps185
  go_wp2
  refine wp_loop_rounds 7 ?_
  iterate 7 (rw [rounds_succ]; go_wp2)
  go_ret
  refine ⟨_, rfl, own_six _ _ _ _ _ _ (Blk.new1 _ _ _ _) (by omega), ((Below.refl _ _).alloc (Nat.le_refl _) _).alloc (by simp) _⟩
end Go.Proofs.YtcfhfllcdliaoaaGreatDoor
/- Contracts of digits and rows, of the model; of the exported functions that go through no table. -/
namespace Go.Proofs.YtcfhfllcdliaoaaGreatDoor
open Go.RowKit
set_option linter.unusedVariables false

def rowB (xs : List Int) : Bool := decide (xs.length = 6) && xs.all fun n => decide (0 ≤ n ∧ n ≤ 3)
theorem rowB_iff (xs : List Int) : rowB xs = true ↔ IsRow6 xs := by
  simp [rowB, IsRow6, IsD]
theorem rowB_no (xs : List Int) : rowB xs = false ↔ ¬ IsRow6 xs := by
  rw [← rowB_iff]; simp
/-- A list and whether there is one, in memory of its own. -/
def GotL (w : World) (xs : List Int) (b : Bool) (e : Ending) (w' : World) : Prop := ∃ v, e = .returned (.tuple #[v, .bool b]) ∧ Own w' w.heap.size v xs ∧ Below w.heap.size w w'
def hAdd (xs ys : List Int) : List Int × Bool := if rowB xs && rowB ys then (addR xs ys, true) else ([], false)
def hWeight (xs : List Int) : Int := if rowB xs then wtR xs else -1
theorem l2Digit_ok (n : Int) (w : World) (h : IsD n) :
    Calls Tryz.prog 240 #[.int .i64 n] w fun e w' => e = .returned (.bool true) ∧ w = w' := by
  go_enter Tryz.func240, Tryz.ntmps240
  go_wp2_with (go_at_call 49; refine (l6In_ok _ _ _ _ h.1 h.2).mono ?_; rintro e w' ⟨rfl, rfl⟩)
  go_ret
  exact ⟨rfl, rfl⟩
theorem l2Digit_no (n : Int) (w : World) (h : NoD n) :
    Calls Tryz.prog 240 #[.int .i64 n] w fun e w' => e = .returned (.bool false) ∧ w = w' := by
  go_enter Tryz.func240, Tryz.ntmps240
  go_wp2_with (go_at_call 49; refine (l6In_no _ _ _ _ h).mono ?_; rintro e w' ⟨rfl, rfl⟩)
  go_ret
  exact ⟨rfl, rfl⟩
theorem digits_step (xs : List Int) (k : Nat) (h : ∀ j, j < k → IsD (xs.getD j 0)) (hk : IsD (xs.getD k 0)) : ∀ j, j < k + 1 → IsD (xs.getD j 0) := by
  intro j hj
  by_cases e : j = k
  · subst e; exact hk
  · exact h j (by omega)
theorem digits_all (xs : List Int) (h : ∀ j, j < xs.length → IsD (xs.getD j 0)) : rowB xs = decide (xs.length = 6) := by
  have : (xs.all fun n => decide (0 ≤ n ∧ n ≤ 3)) = true := by
    rw [List.all_eq_true]
    intro x hx
    obtain ⟨j, hj, rfl⟩ := List.getElem_of_mem hx
    have := h j hj
    rw [List.getD_eq_getElem?_getD, List.getElem?_eq_getElem hj] at this
    simpa [IsD] using this
  unfold rowB
  rw [this, Bool.and_true]
theorem digits_no (xs : List Int) (k : Nat) (hk : k < xs.length) (h : NoD (xs.getD k 0)) : rowB xs = false := by
  rw [rowB_no]
  intro hr
  exact isD_not (hr.get k) h
set_option maxHeartbeats 400000 in
theorem l2Row_calls (A : Option Addr) (c : Nat) (xs : List Int) (w : World) (ha : Rds w w.heap.size .i64 A xs) (hx : xs.length ≤ maxLen) :
    Calls Tryz.prog 228 #[.slice A xs.length c] w fun e w' => e = .returned (.bool (rowB xs)) ∧ w = w' := by
  unfold maxLen at hx
  go_enter Tryz.func228, Tryz.ntmps228
  go_wp2
  go_loop [3] (fun i => ∃ k : Nat, k ≤ xs.length ∧ i = .int .i64 k ∧ Hid (∀ j, j < k → IsD (xs.getD j 0))) (fun i => xs.length - (intOf i).toNat)
  case atStart => exact ⟨0, Nat.zero_le _, rfl, Lib.hid (fun j hj => by omega)⟩
  case round =>
    obtain ⟨k, hk, rfl, hd⟩ := hrel
    by_cases hlt : k < xs.length
    · obtain ⟨b1, o1, rfl, _, c1⟩ := ha.at_ hlt
      have HS := Lib.hid (digits_step xs k hd.out)
      have HN := Lib.hid (digits_no xs k hlt)
      clear hd
      generalize xs.getD k 0 = x at *
      rcases isD_or x with h | h
      · have HS' := Lib.hid (HS.out h)
        clear HS HN
        go_wp2_with (go_at_call 240; refine (l2Digit_ok _ _ h).mono ?_; rintro e w' ⟨rfl, rfl⟩)
        go_round
        case rel => exact ⟨k + 1, by omega, by go_num, HS'⟩
        case measure => simp [intOf]; omega
      · have HN' := Lib.hid (HN.out h)
        clear HS HN
        go_wp2_with (go_at_call 240; refine (l2Digit_no _ _ h).mono ?_; rintro e w' ⟨rfl, rfl⟩)
        go_ret
        exact ⟨ret_b HN'.out.symm, rfl⟩
    · have HD := Lib.hid (digits_all xs (fun j hj => hd.out j (by omega)))
      clear hd
      go_wp2
      go_ret
      refine ⟨ret_b ?_, rfl⟩
      rw [HD.out]
      first | rfl | (rw [Bool.eq_iff_iff]; simp; omega)
theorem wtK_stepL (xs : List Int) (k : Nat) (h : k < xs.length) : wtK xs (k + 1) = wtK xs k + nz (xs.getD k 0) := by
  unfold wtK wtR
  rw [take_succ_getD xs k h, List.foldl_append]
  rfl
theorem wtK_rangeL (xs : List Int) (k : Nat) (h : k ≤ xs.length) : 0 ≤ wtK xs k ∧ wtK xs k ≤ k := by
  induction k with
  | zero => simp [wtK, wtR]
  | succ k ih =>
    have := ih (by omega)
    have := nz_01 (xs.getD k 0)
    rw [wtK_stepL xs k (by omega)]
    omega
theorem wtK_all (xs : List Int) (k : Nat) (h : xs.length ≤ k) : wtK xs k = wtR xs := by unfold wtK; rw [List.take_of_length_le h]
end Go.Proofs.YtcfhfllcdliaoaaGreatDoor
/- Contracts of the sum of two rows, of the program and of its model. -/
namespace Go.Proofs.YtcfhfllcdliaoaaGreatDoor
open Go.RowKit
set_option linter.unusedVariables false

theorem own_empty2 (w : World) (B : Nat) (hB : B ≤ w.heap.size) : Own (w.alloc (.cells #[] 3)) B (.slice (some ⟨w.heap.size, 0, none⟩) 0 0) [] :=
  ⟨rfl, .inr ⟨w.heap.size, 0, _, rfl, hB, heap_alloc_new w _, by simp, by unfold maxLen; omega, by simp, by simp [vals]⟩⟩
theorem step_push {ops : Array Oper} {o : Oper} {a : Act} {K : Act → World → Prop} {Q : Exit → Act → World → Prop} {E : Prop} (hgd : o.guard = none) (s y : Operand)
    (ho : o.op = .call { callee := .builtin .append, args := #[s, y], argTypes := #[61, 61] })
    (w : World) (B : Nat) (v : Value) (xs : List Int) (x : Int) (c : Nat) (hs : a.eval s = v) (hy : a.eval y = .slice (some ⟨w.heap.size, 0, none⟩) 1 c)
    (hown : Own w B v xs) (hlen : xs.length ≤ 1048576) (hB : B ≤ w.heap.size)
    (h : ∀ v' w', Own w' B v' (xs ++ [x]) → Below B w w' → w.grownBy w' v.ownBlock → K (a.put o.dst v') w') :
    if Region.wanted o (yielded ops a.tmps) = true then Oper.wp Tryz.prog o a (World.drew (w.alloc (.cells #[.int .i64 x] 3))) K Q else E := by
  obtain ⟨i0, hi, hz0, hz1, hz2⟩ := info_parts intRow
  refine step_append_lies _ hgd s y 61 ho B 3 i0 (.int .i64 0) 1 8 Tryz.underlying61 hi hz0 hz1 hz2 rfl (by decide) v xs.length (vals .i64 xs) hs
    (World.ownsRow.alloc hown _) ⟨w.heap.size, 0, none⟩ 1 c [.int .i64 x] hy rfl ?_ ?_ (by omega) (by unfold maxLen; omega) (by omega) (by show B ≤ (w.alloc _).heap.size; simp; omega) _ rfl ?_
  · intro j u hj
    match j, hj with
    | 0, hj =>
      simp at hj; subst hj
      exact cell_new w #[.int .i64 x] _ 0 _ rfl
  · intro u hu; simp at hu; subst hu; rfl
  · intro g cap w' h1 h2 _ _
    have h2' : (w.alloc (.cells #[.int .i64 x] 3)).grownBy w' v.ownBlock := ⟨h2.os, h2.tape, h2.output, h2.size, h2.block⟩
    have hg : w.grownBy w' v.ownBlock := grown_trans (World.grownBy_alloc w _ _) h2'
    refine h _ w' ?_ ((Below.refl B w).grown hg hB (own_row_ge hown)) hg
    unfold Own
    rw [vals_append, show vals .i64 [x] = [Value.int .i64 x] from rfl, List.length_append]
    simpa using h1
end Go.Proofs.YtcfhfllcdliaoaaGreatDoor