/- Contracts of digits and of reading rows of six digits, of the program. -/
import Derived.Test.YtphdemabkhmpoaaDoorC3
import Derived.Test.YtphdemabkhmpoaaDoorM10
namespace Go.Proofs.YtphdemabkhmpoaaDoor
open Go.RowKit
set_option linter.unusedVariables false

theorem xor_u8 (a b : Int) (ha : IsD a) (hb : IsD b) : bits .xor .u8 a b = xorI a b := by
  obtain ⟨a, rfl⟩ := ha.fin; obtain ⟨b, rfl⟩ := hb.fin
  clear ha hb; revert a b; decide
theorem digitFrom_ok (n : Int) (w : World) (h : IsD n) :
    Calls Tryd.prog 64 #[.int .i64 n] w fun e w' => e = .returned (.tuple #[.int .u8 n, .bool true]) ∧ w = w' := by
  obtain ⟨h0, h1⟩ := h
  go_enter Tryd.func64, Tryd.ntmps64
  go_wp2
  go_ret2
  exact ⟨rfl, rfl⟩
theorem digitFrom_no (n : Int) (w : World) (h : NoD n) :
    Calls Tryd.prog 64 #[.int .i64 n] w fun e w' => e = .returned (.tuple #[.int .u8 0, .bool false]) ∧ w = w' := by
  rcases h with h | h
  · go_enter Tryd.func64, Tryd.ntmps64
    go_wp2
    go_ret2
    exact ⟨rfl, rfl⟩
  · have h' : ¬ n < 0 := by omega
    go_enter Tryd.func64, Tryd.ntmps64
    go_wp2
    go_ret2
    exact ⟨rfl, rfl⟩
theorem digit_add (a b : Int) (w : World) (ha : IsD a) (hb : IsD b) :
    Calls Tryd.prog 58 #[.int .u8 a, .int .u8 b] w fun e w' => e = .returned (.int .u8 (xorI a b)) ∧ w = w' := by
  have HF := Lib.hid (xor_u8 a b ha hb)
  go_enter Tryd.func58, Tryd.ntmps58
  go_wp2
  go_ret
  exact ⟨ret_i HF.out, rfl⟩
theorem six_cells {w : World} {A : Option Addr} {k : IntKind} {B : Nat} {d0 d1 d2 d3 d4 d5 : Int} (hr : Rds w B k A [d0, d1, d2, d3, d4, d5]) : ∃ b o, A = some ⟨b, o, none⟩ ∧ b < B ∧
    w.cell? ⟨b, o, none⟩ = some (.int k d0) ∧ w.cell? ⟨b, o + 1, none⟩ = some (.int k d1) ∧ w.cell? ⟨b, o + 2, none⟩ = some (.int k d2) ∧ w.cell? ⟨b, o + 3, none⟩ = some (.int k d3) ∧ w.cell? ⟨b, o + 4, none⟩ = some (.int k d4) ∧ w.cell? ⟨b, o + 5, none⟩ = some (.int k d5) := by
  rcases hr with h | ⟨b, o, h1, h2, h3⟩
  · simp at h
  · exact ⟨b, o, h1, h2, h3 0 (by simp), h3 1 (by simp), h3 2 (by simp), h3 3 (by simp), h3 4 (by simp), h3 5 (by simp)⟩
set_option maxHeartbeats 1000000 in
theorem hexRowFrom_ok (A : Option Addr) (n : Nat) (d0 d1 d2 d3 d4 d5 : Int) (w : World) (hr : Rds w w.heap.size .i64 A [d0, d1, d2, d3, d4, d5]) (h0 : IsD d0) (h1 : IsD d1) (h2 : IsD d2) (h3 : IsD d3) (h4 : IsD d4) (h5 : IsD d5) :
    Calls Tryd.prog 45 #[.slice A 6 n] w fun r w' => r = .returned (.tuple #[.agg #[.int .u8 d0, .int .u8 d1, .int .u8 d2, .int .u8 d3, .int .u8 d4, .int .u8 d5], .bool true]) ∧ Below w.heap.size w w' := by
  obtain ⟨B, o, rfl, hB, c0, c1, c2, c3, c4, c5⟩ := six_cells hr
  clear hr
  go_enter Tryd.func45, Tryd.ntmps45
  go_wp2
  refine wp_loop_rounds 7 ?_
  iterate 7 (rw [rounds_succ]; go_wp2_with (go_at_call 64; refine (digitFrom_ok _ _ (by assumption)).mono ?_; rintro e w' ⟨rfl, rfl⟩))
  exact bodyPost_ret (v := .tuple #[.agg #[.int .u8 d0, .int .u8 d1, .int .u8 d2, .int .u8 d3, .int .u8 d4, .int .u8 d5], .bool true]) (by simp [results, Tryd.results45, go_sem]) rfl ⟨rfl, ((Below.refl _ _).alloc (Nat.le_refl _) _).alloc (by simp) _⟩
def noRow : Value := .agg #[.int .u8 0, .int .u8 0, .int .u8 0, .int .u8 0, .int .u8 0, .int .u8 0]
theorem isD_dec (n : Int) : ¬ IsD n → NoD n := (isD_or n).resolve_left
set_option maxHeartbeats 4000000 in
theorem hexRowFrom_no (A : Option Addr) (n : Nat) (xs : List Int) (w : World) (hr : Rds w w.heap.size .i64 A xs) (hx : xs.length ≤ maxLen) (h : ¬ IsRow6 xs) :
    Calls Tryd.prog 45 #[.slice A xs.length n] w fun r w' => r = .returned (.tuple #[noRow, .bool false]) ∧ Below w.heap.size w w' := by
  unfold maxLen at hx
  by_cases hl : xs.length = 6
  · obtain ⟨d0, d1, d2, d3, d4, d5, rfl⟩ : ∃ d0 d1 d2 d3 d4 d5 : Int, xs = [d0, d1, d2, d3, d4, d5] := by
      match xs, hl with
      | [d0, d1, d2, d3, d4, d5], _ => exact ⟨_, _, _, _, _, _, rfl⟩
    obtain ⟨B, o, rfl, hB, c0, c1, c2, c3, c4, c5⟩ := six_cells hr
    clear hr hl hx
    show Calls _ _ #[.slice _ 6 n] _ _
    rcases isD_or d0 with h0 | h0
    rcases isD_or d1 with h1 | h1
    rcases isD_or d2 with h2 | h2
    rcases isD_or d3 with h3 | h3
    rcases isD_or d4 with h4 | h4
    rcases isD_or d5 with h5 | h5
    · exact absurd (isRow6_mk h0 h1 h2 h3 h4 h5) h
    all_goals
      clear h
      go_enter Tryd.func45, Tryd.ntmps45
      go_wp2
      refine wp_loop_rounds 7 ?_
      repeat (rw [rounds_succ]; go_wp2_with (go_at_call 64; first | (refine (digitFrom_ok _ _ (by assumption)).mono ?_; rintro e w' ⟨rfl, rfl⟩) | (refine (digitFrom_no _ _ (by assumption)).mono ?_; rintro e w' ⟨rfl, rfl⟩)))
      exact bodyPost_ret (v := .tuple #[noRow, .bool false]) (by simp [results, noRow, Tryd.results45, go_sem]) rfl ⟨rfl, ((Below.refl _ _).alloc (Nat.le_refl _) _).alloc (by simp) _⟩
  · have hl1 : ((xs.length : Int) != 6) = true := by simp; omega
    clear hl h
    go_enter Tryd.func45, Tryd.ntmps45
    go_wp2
    exact bodyPost_ret (v := .tuple #[noRow, .bool false]) (by simp [results, noRow, Tryd.results45, go_sem]) rfl ⟨rfl, (Below.refl _ _).alloc (Nat.le_refl _) _⟩
end Go.Proofs.YtphdemabkhmpoaaDoor
