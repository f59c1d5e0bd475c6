/- Moves of the line by the program: what is refused; the exported functions on plain numbers. -/
import Derived.Test.YtepaaijlkimmeaaDoorC131
namespace Go.Proofs.YtepaaijlkimmeaaDoor
open Go.RowKit
set_option linter.unusedVariables false

def isR (n : Int) : Bool := decide (0 ≤ n ∧ n ≤ 22)
def rOf (n : Int) : R23 := Fin.ofNat 23 n.toNat
theorem rOf_val (r : R23) : rOf (r.val : Int) = r := by
  apply Fin.ext
  show (r.val : Int).toNat % 23 = r.val
  have := r.isLt
  omega
theorem isR_val (r : R23) : isR (r.val : Int) = true := by
  have := r_rng r
  simpa [isR] using this
theorem isR_no {n : Int} (h : n < 0 ∨ 22 < n) : isR n = false := by simp only [isR, decide_eq_false_iff_not]; omega
theorem r_or (n : Int) : (∃ r : R23, n = (r.val : Int)) ∨ (n < 0 ∨ 22 < n) := by
  by_cases h : 0 ≤ n ∧ n ≤ 22
  · exact .inl ⟨⟨n.toNat, by omega⟩, by show n = (n.toNat : Int); omega⟩
  · exact .inr (by omega)
/-- The answers of chapter 8 on plain numbers. -/
def sqI (n : Int) : Bool := isR n && sqF (rOf n)
def tnI (n : Int) : Int × Bool := if isR n && rOf n != 0 then ((tn (rOf n)).val, true) else (0, false)
def gvI (a b c d : Int) : Bool := isR a && isR b && isR c && isR d && sqF (rOf a * rOf d - rOf b * rOf c)
def mvI (a b c d x : Int) : Int × Bool := if gvI a b c d && decide (0 ≤ x ∧ x ≤ 23) then ((lpNo (lmF (rOf a) (rOf b) (rOf c) (rOf d) (lpOf x.toNat)) : Nat), true) else (0, false)
theorem gvI_val (a b c d : R23) : gvI a.val b.val c.val d.val = sqF (a * d - b * c) := by simp [gvI, isR_val, rOf_val]
theorem gvI_cases (a b c d : Int) : (∃ a' b' c' d' : R23, a = a'.val ∧ b = b'.val ∧ c = c'.val ∧ d = d'.val) ∨ (gvI a b c d = false ∧ ((a < 0 ∨ 22 < a) ∨ (∃ a' : R23, a = a'.val) ∧ (b < 0 ∨ 22 < b) ∨ (∃ a' b' : R23, a = a'.val ∧ b = b'.val) ∧ (c < 0 ∨ 22 < c) ∨ (∃ a' b' c' : R23, a = a'.val ∧ b = b'.val ∧ c = c'.val) ∧ (d < 0 ∨ 22 < d))) := by
  rcases r_or a with ⟨a', ha⟩ | ha
  · rcases r_or b with ⟨b', hb⟩ | hb
    · rcases r_or c with ⟨c', hc⟩ | hc
      · rcases r_or d with ⟨d', hd⟩ | hd
        · exact .inl ⟨a', b', c', d', ha, hb, hc, hd⟩
        · exact .inr ⟨by simp [gvI, isR_no hd], .inr (.inr (.inr ⟨⟨a', b', c', ha, hb, hc⟩, hd⟩))⟩
      · exact .inr ⟨by simp [gvI, isR_no hc], .inr (.inr (.inl ⟨⟨a', b', ha, hb⟩, hc⟩))⟩
    · exact .inr ⟨by simp [gvI, isR_no hb], .inr (.inl ⟨⟨a', ha⟩, hb⟩)⟩
  · exact .inr ⟨by simp [gvI, isR_no ha], .inl ha⟩
theorem heap0 (w : World) (cs : Array Value) (t : TypeId) (o1 : Obj) : Blk ((w.alloc (.cells cs t)).alloc o1) w.heap.size t cs := by
  have h1 : (w.alloc (.cells cs t)).heap[w.heap.size]? = some (.cells cs t (0, 0)) := heap_alloc_new w _
  exact (heap_alloc_old _ o1 (by simp)).trans h1
theorem lmFrom_no1 (a b c d : Int) (w : World) (h : a < 0 ∨ 22 < a) :
    Calls Tryd.prog 25 #[.int .i64 a, .int .i64 b, .int .i64 c, .int .i64 d] w fun e w' => e = .returned (.tuple #[lmV 0 0 0 0, .bool false]) ∧ Below w.heap.size w w' := by
  have I0 := iq0 (.int .i64 a) (.int .i64 b) (.int .i64 c) (.int .i64 d)
  have H := Lib.hid (fun W => resFrom_no a W h)
  clear h
  go_enter Tryd.func25, Tryd.ntmps25
  go_wp2
  refine wp_loop_rounds 5 ?_
  rw [rounds_succ]; go_wp2_with (go_at_call 32; refine (H.out _).mono ?_; rintro e w' ⟨rfl, rfl⟩)
  exact bodyPost_ret (results_ct rfl rfl rfl (heap0 w _ _ _) Tryd.underlying42 rfl (by kernel_rfl)) rfl ⟨rfl, ((Below.refl _ _).alloc (Nat.le_refl _) _).alloc (by simp) _⟩
theorem lmFrom_no2 (a : R23) (b c d : Int) (w : World) (h : b < 0 ∨ 22 < b) :
    Calls Tryd.prog 25 #[.int .i64 a.val, .int .i64 b, .int .i64 c, .int .i64 d] w fun e w' => e = .returned (.tuple #[lmV 0 0 0 0, .bool false]) ∧ Below w.heap.size w w' := by
  have I0 := iq0 (.int .i64 a.val) (.int .i64 b) (.int .i64 c) (.int .i64 d)
  have I1 := iq1 (.int .i64 a.val) (.int .i64 b) (.int .i64 c) (.int .i64 d)
  have H := Lib.hid (fun W => resFrom_no b W h)
  clear h
  go_enter Tryd.func25, Tryd.ntmps25
  go_wp2
  refine wp_loop_rounds 5 ?_
  rw [rounds_succ]; go_wp2_with (go_at_call 32; refine (resFrom_ok a _).mono ?_; rintro e w' ⟨rfl, rfl⟩)
  rw [rounds_succ]; go_wp2_with (go_at_call 32; refine (H.out _).mono ?_; rintro e w' ⟨rfl, rfl⟩)
  exact bodyPost_ret (results_ct rfl rfl rfl (heap0 w _ _ _) Tryd.underlying42 rfl (by kernel_rfl)) rfl ⟨rfl, ((Below.refl _ _).alloc (Nat.le_refl _) _).alloc (by simp) _⟩
theorem lmFrom_no3 (a b : R23) (c d : Int) (w : World) (h : c < 0 ∨ 22 < c) :
    Calls Tryd.prog 25 #[.int .i64 a.val, .int .i64 b.val, .int .i64 c, .int .i64 d] w fun e w' => e = .returned (.tuple #[lmV 0 0 0 0, .bool false]) ∧ Below w.heap.size w w' := by
  have I0 := iq0 (.int .i64 a.val) (.int .i64 b.val) (.int .i64 c) (.int .i64 d)
  have I1 := iq1 (.int .i64 a.val) (.int .i64 b.val) (.int .i64 c) (.int .i64 d)
  have I2 := iq2 (.int .i64 a.val) (.int .i64 b.val) (.int .i64 c) (.int .i64 d)
  have H := Lib.hid (fun W => resFrom_no c W h)
  clear h
  go_enter Tryd.func25, Tryd.ntmps25
  go_wp2
  refine wp_loop_rounds 5 ?_
  rw [rounds_succ]; go_wp2_with (go_at_call 32; refine (resFrom_ok a _).mono ?_; rintro e w' ⟨rfl, rfl⟩)
  rw [rounds_succ]; go_wp2_with (go_at_call 32; refine (resFrom_ok b _).mono ?_; rintro e w' ⟨rfl, rfl⟩)
  rw [rounds_succ]; go_wp2_with (go_at_call 32; refine (H.out _).mono ?_; rintro e w' ⟨rfl, rfl⟩)
  exact bodyPost_ret (results_ct rfl rfl rfl (heap0 w _ _ _) Tryd.underlying42 rfl (by kernel_rfl)) rfl ⟨rfl, ((Below.refl _ _).alloc (Nat.le_refl _) _).alloc (by simp) _⟩
theorem lmFrom_no4 (a b c : R23) (d : Int) (w : World) (h : d < 0 ∨ 22 < d) :
    Calls Tryd.prog 25 #[.int .i64 a.val, .int .i64 b.val, .int .i64 c.val, .int .i64 d] w fun e w' => e = .returned (.tuple #[lmV 0 0 0 0, .bool false]) ∧ Below w.heap.size w w' := by
  have I0 := iq0 (.int .i64 a.val) (.int .i64 b.val) (.int .i64 c.val) (.int .i64 d)
  have I1 := iq1 (.int .i64 a.val) (.int .i64 b.val) (.int .i64 c.val) (.int .i64 d)
  have I2 := iq2 (.int .i64 a.val) (.int .i64 b.val) (.int .i64 c.val) (.int .i64 d)
  have I3 := iq3 (.int .i64 a.val) (.int .i64 b.val) (.int .i64 c.val) (.int .i64 d)
  have H := Lib.hid (fun W => resFrom_no d W h)
  clear h
  go_enter Tryd.func25, Tryd.ntmps25
  go_wp2
  refine wp_loop_rounds 5 ?_
  rw [rounds_succ]; go_wp2_with (go_at_call 32; refine (resFrom_ok a _).mono ?_; rintro e w' ⟨rfl, rfl⟩)
  rw [rounds_succ]; go_wp2_with (go_at_call 32; refine (resFrom_ok b _).mono ?_; rintro e w' ⟨rfl, rfl⟩)
  rw [rounds_succ]; go_wp2_with (go_at_call 32; refine (resFrom_ok c _).mono ?_; rintro e w' ⟨rfl, rfl⟩)
  rw [rounds_succ]; go_wp2_with (go_at_call 32; refine (H.out _).mono ?_; rintro e w' ⟨rfl, rfl⟩)
  exact bodyPost_ret (results_ct rfl rfl rfl (heap0 w _ _ _) Tryd.underlying42 rfl (by kernel_rfl)) rfl ⟨rfl, ((Below.refl _ _).alloc (Nat.le_refl _) _).alloc (by simp) _⟩
theorem lmFrom_bad (a b c d : Int) (w : World) (h : gvI a b c d = false) :
    ∃ p q r s : R23, Calls Tryd.prog 25 #[.int .i64 a, .int .i64 b, .int .i64 c, .int .i64 d] w fun e w' => e = .returned (.tuple #[lmV p q r s, .bool false]) ∧ Below w.heap.size w w' := by
  rcases gvI_cases a b c d with ⟨a', b', c', d', rfl, rfl, rfl, rfl⟩ | ⟨_, ha | ⟨⟨a', rfl⟩, hb⟩ | ⟨⟨a', b', rfl, rfl⟩, hc⟩ | ⟨⟨a', b', c', rfl, rfl, rfl⟩, hd⟩⟩
  · rw [gvI_val] at h
    have := lmFrom_ok a' b' c' d' w
    rw [h] at this
    exact ⟨_, _, _, _, this⟩
  · exact ⟨_, _, _, _, lmFrom_no1 a b c d w ha⟩
  · exact ⟨_, _, _, _, lmFrom_no2 a' b c d w hb⟩
  · exact ⟨_, _, _, _, lmFrom_no3 a' b' c d w hc⟩
  · exact ⟨_, _, _, _, lmFrom_no4 a' b' c' d w hd⟩
theorem lmFrom_good (a b c d : R23) (w : World) (h : sqF (a * d - b * c) = true) :
    Calls Tryd.prog 25 #[.int .i64 a.val, .int .i64 b.val, .int .i64 c.val, .int .i64 d.val] w fun e w' => e = .returned (.tuple #[lmV a b c d, .bool true]) ∧ Below w.heap.size w w' := by
  have := lmFrom_ok a b c d w
  rwa [h] at this
theorem gvI_true {a b c d : Int} (h : gvI a b c d = true) : ∃ a' b' c' d' : R23, a = a'.val ∧ b = b'.val ∧ c = c'.val ∧ d = d'.val ∧ sqF (a' * d' - b' * c') = true := by
  rcases gvI_cases a b c d with ⟨a', b', c', d', rfl, rfl, rfl, rfl⟩ | ⟨h2, _⟩
  · rw [gvI_val] at h
    exact ⟨a', b', c', d', rfl, rfl, rfl, rfl, h⟩
  · rw [h2] at h; cases h
theorem x_or (x : Int) : (∃ y : Option R23, x = ((lpNo y : Nat) : Int)) ∨ (x < 0 ∨ 23 < x) := by
  by_cases h : 0 ≤ x ∧ x ≤ 23
  · exact .inl ⟨lpOf x.toNat, by rw [lpNo_of _ (by omega)]; omega⟩
  · exact .inr (by omega)
end Go.Proofs.YtepaaijlkimmeaaDoor
