/- Proved: the statement Rows.FnExactLatticeMoveSaid: for every input the Go function laws.FnExactLatticeMove returns true and leaves its arguments as they were, whatever order its goroutines take; no condition of mine. -/
import Derived.Test.YtiodikflmijhkaaGB
set_option linter.unusedSectionVars false
set_option linter.unusedVariables false
namespace Go.Proofs.Ytiodikflmijhkaa
open Go Go.Conc Go.ConcN Go.RowKit Farm Vow
attribute [local irreducible] cN syn vecB permB lmL

theorem bodyW_eq : Try.f3.body = some bodyW := by
  unfold bodyW Try.f3
  rfl
theorem lvMove_len (xs ys : List Int) : (lvMove xs ys).1.length ≤ 24 := by
  by_cases h : (vecB xs && permB ys) = true
  · simp only [lvMove, h, if_true]
    exact Nat.le_of_eq (lmL_len xs ys 24)
  · simp only [lvMove, h, if_false, List.length_nil, Bool.false_eq_true]
    omega
theorem law_enter (A A2 : Option Addr) (n1 n2 c1 c2 : Nat) : Frame.enter Try.prog 3 #[.slice A n1 c1, .slice A2 n2 c2] .normal = b3.at ⟨#[.slice A n1 c1, .slice A2 n2 c2, undef, undef, undef, undef, undef, undef, undef, undef, undef, undef, undef, undef, undef, undef, undef, undef, undef, undef, undef, undef, undef, undef, undef, undef, undef, undef, undef, undef, undef, undef, undef, undef, undef, undef, undef, undef, undef, undef, undef, undef, undef, undef, undef, undef, undef, undef, undef, undef, undef, undef, undef, undef, undef, undef, undef, undef, undef, undef, undef, undef, undef, undef, undef, undef, undef, undef, undef, undef, undef, undef, undef, undef, undef, undef, undef, undef, undef, undef, undef, undef, undef, undef, undef, undef, undef, undef, undef, undef, undef, undef, undef, undef, undef, undef, undef, undef, undef, undef, undef, undef, undef, undef, undef, undef, undef, undef, undef, undef, undef, undef, undef, undef], []⟩ [.code bodyW] := by
  rw [enter_at _ Try.func3 bodyW_eq]
  simp only [Try.ntmps3]
  walk_nrm

theorem runs_FnExactLatticeMove : fnExactLatticeMove.Runs := runs_of_done fun a0 len0 cap0 z0 a1 len1 cap1 z1 W w0 w1 => by
  obtain ⟨hr0, hl0, _⟩ := w0.rds
  obtain ⟨hr1, hl1, _⟩ := w1.rds
  have hm0 : len0 ≤ maxLen := by
    rcases w0 with ⟨_, h, _⟩ | ⟨_, _, h1, h2, _⟩
    · unfold maxLen; omega
    · omega
  have hm1 : len1 ≤ maxLen := by
    rcases w1 with ⟨_, h, _⟩ | ⟨_, _, h1, h2, _⟩
    · unfold maxLen; omega
    · omega
  clear w0 w1
  generalize z0.take len0 = x0 at *
  generalize z1.take len1 = x1 at *
  subst hl0 hl1
  rw [law_enter]
  by_cases hbig : 1048576 < x0.length ∨ 1048576 < x1.length
  · exact law_big (phZ W) (heapZ W) hbig hm0 hm1
  · rcases hLM : lvMove x0 x1 with ⟨L, bb⟩
    have hL : L.length ≤ 24 := by have := lvMove_len x0 x1; rw [hLM] at this; exact this
    exact law_S1 ⟨phZ W, heapZ W, Below.refl _ _⟩ (Nat.le_refl _) (by omega) hLM hr0 hr1 (by omega) (by omega) (fun b _ h => h) (by simp [stZ])

theorem proof_FnExactLatticeMove : Rows.FnExactLatticeMoveSaid := fnExactLatticeMove.over runs_FnExactLatticeMove
end Go.Proofs.Ytiodikflmijhkaa
