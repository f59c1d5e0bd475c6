/- The walk of promise 7: the order of places does not matter. -/
import Derived.Test.YtiodikflmijhkaaQ3
import Derived.Test.YtiodikflmijhkaaP0
namespace Go.Proofs.Ytiodikflmijhkaa
open Go.RowKit
set_option linter.unusedVariables false

theorem wof_snoc (xs : List Int) (x : Int) : wof (xs ++ [x]) = addPl (wof xs) x := by unfold wof; rw [List.foldl_append]; rfl
theorem wof_char (n : Nat) : ∀ (xs : List Int) (T : Int), xs.length = n → wof xs = some T → IsW T ∧ xs.Nodup ∧ (∀ x ∈ xs, 0 ≤ x ∧ x ≤ 23) ∧ wt T = xs.length ∧ ∀ q, 0 ≤ q → bitI T q = if q ∈ xs then 1 else 0 := by
  induction n with
  | zero =>
    intro xs T hl h
    obtain rfl := List.eq_nil_of_length_eq_zero hl
    obtain rfl : (0 : Int) = T := by simpa [wof] using h
    exact ⟨⟨by omega, by omega⟩, by simp, by simp, by decide, fun q _ => by simp [bitI]⟩
  | succ n ih =>
    intro xs T hl h
    rcases List.eq_nil_or_concat xs with rfl | ⟨L, x, rfl⟩
    · simp at hl
    · rw [List.concat_eq_append] at hl h ⊢
      rw [wof_snoc] at h
      rcases hL : wof L with _ | S
      · rw [hL] at h; simp [addPl] at h
      · rw [hL] at h
        obtain ⟨⟨s0, s1⟩, hn, hr, hw, hb⟩ := ih L S (by simpa using hl) hL
        simp only [addPl] at h
        split at h
        · rename_i hc
          obtain ⟨x0, x1, xb⟩ := hc
          obtain rfl : S + powI x = T := by simpa using h
          have hxL : x ∉ L := fun hm => by have := hb x x0; rw [if_pos hm] at this; omega
          have hra := addPl_range S x s0 s1 x0 x1 xb
          refine ⟨hra, ?_, ?_, ?_, ?_⟩
          · rw [List.nodup_append]
            exact ⟨hn, by simp, fun a ha b hbm e => by simp at hbm; subst hbm; subst e; exact hxL ha⟩
          · intro y hy
            rcases List.mem_append.1 hy with h1 | h1
            · exact hr y h1
            · simp at h1; subst h1; exact ⟨x0, x1⟩
          · rw [wt_addp S x s0 x0 x1 xb, hw]; simp
          · intro q hq
            rw [bit_add S x q s0 x0 hq xb, hb q hq]
            by_cases e : q = x
            · subst e; simp
            · simp [e]
        · simp at h
theorem wof_ex (n : Nat) : ∀ (xs : List Int), xs.length = n → xs.Nodup → (∀ x ∈ xs, 0 ≤ x ∧ x ≤ 23) → ∃ T, wof xs = some T := by
  induction n with
  | zero => intro xs hl _ _; obtain rfl := List.eq_nil_of_length_eq_zero hl; exact ⟨0, rfl⟩
  | succ n ih =>
    intro xs hl hn hr
    rcases List.eq_nil_or_concat xs with rfl | ⟨L, x, rfl⟩
    · simp at hl
    · rw [List.concat_eq_append] at hl hn hr ⊢
      rw [List.nodup_append] at hn
      obtain ⟨S, hS⟩ := ih L (by simpa using hl) hn.1 (fun y hy => hr y (by simp [hy]))
      obtain ⟨_, _, _, _, hb⟩ := wof_char n L S (by simpa using hl) hS
      have hx := hr x (by simp)
      have hxb : bitI S x = 0 := by
        rw [hb x hx.1, if_neg (fun hm => hn.2.2 x hm x (by simp) rfl)]
      exact ⟨S + powI x, by rw [wof_snoc, hS]; simp only [addPl]; rw [if_pos ⟨hx.1, hx.2, hxb⟩]⟩
theorem wof_reverse (xs : List Int) (T : Int) (h : wof xs = some T) : wof xs.reverse = some T := by
  obtain ⟨hT, hn, hr, hw, hb⟩ := wof_char _ xs T rfl h
  obtain ⟨S, hS⟩ := wof_ex _ xs.reverse rfl (List.pairwise_reverse.2 (hn.imp fun h => Ne.symm h)) (fun x hx => hr x (List.mem_reverse.1 hx))
  obtain ⟨hSw, _, _, _, hb2⟩ := wof_char _ xs.reverse S rfl hS
  rw [hS]
  congr 1
  exact word_ext S T hSw hT (fun q hq => by rw [hb q (by omega), hb2 q (by omega)]; simp)
theorem rev_step (xs : List Int) (j : Nat) (h : j < xs.length) : xs.reverse.take j ++ [xs.getD (xs.length - 1 - j) 0] = xs.reverse.take (j + 1) := by
  rw [List.take_succ_eq_append_getElem (by simpa using h), List.getElem_reverse]
  simp [List.getD_eq_getElem?_getD, List.getElem?_eq_getElem (show xs.length - 1 - j < xs.length by omega)]
end Go.Proofs.Ytiodikflmijhkaa
