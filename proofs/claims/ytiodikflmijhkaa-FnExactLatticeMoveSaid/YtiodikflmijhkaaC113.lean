/- Sorting by halves, of the model. -/
import Derived.Test.YtiodikflmijhkaaQ3
import Derived.Test.YtiodikflmijhkaaP3
namespace Go.Proofs.Ytiodikflmijhkaa
open Go.RowKit
set_option linter.unusedVariables false

theorem pair_small {xs : List Int} (h : xs.length < 2) : xs.Pairwise (· ≤ ·) := by
  match xs, h with
  | [], _ => exact .nil
  | [x], _ => simp
theorem Rds.takeN {w : World} {B : Nat} {b o h : Nat} {xs : List Int} (hb : b < B) (hc : ∀ j, j < xs.length → w.cell? ⟨b, o + j, none⟩ = some (.int .i64 (xs.getD j 0))) (hh : h ≤ xs.length) : Rds w B .i64 (some ⟨b, o, none⟩) (xs.take h) := by
  refine .inr ⟨b, o, rfl, hb, fun j hj => ?_⟩
  have hj' : j < h := by simp at hj; omega
  rw [hc j (by omega)]
  simp [List.getD_eq_getElem?_getD, hj']
theorem Rds.dropN {w : World} {B : Nat} {b o h : Nat} {xs : List Int} (hb : b < B) (hc : ∀ j, j < xs.length → w.cell? ⟨b, o + j, none⟩ = some (.int .i64 (xs.getD j 0))) : Rds w B .i64 (some ⟨b, o + h, none⟩) (xs.drop h) := by
  refine .inr ⟨b, o + h, rfl, hb, fun j hj => ?_⟩
  have hj' : h + j < xs.length := by simp at hj; omega
  have e : o + h + j = o + (h + j) := by omega
  rw [e, hc (h + j) hj']
  simp [List.getD_eq_getElem?_getD]
theorem own_pushed {w : World} {B : Nat} {v : Value} {zs : List Int} {x : Int} (h : Own w B v (zs ++ [x])) : ∃ g c, v = .slice (some ⟨g, 0, none⟩) (zs ++ [x]).length c := by
  rcases h.form with ⟨_, h1⟩ | ⟨g, c, h1, _⟩
  · simp at h1
  · exact ⟨g, c, h1⟩
theorem own_caps {w : World} {B : Nat} {A : Option Addr} {n c : Nat} {xs : List Int} (h : Own w B (.slice A n c) xs) : xs.length ≤ c ∧ c ≤ maxLen := by
  rcases h.form with ⟨h1, h0⟩ | ⟨g, cap, h1, _, _, h2, h3⟩
  · simp only [Value.slice.injEq] at h1
    obtain ⟨_, _, rfl⟩ := h1
    rw [h0]
    exact ⟨Nat.le_refl _, by unfold maxLen; omega⟩
  · simp only [Value.slice.injEq] at h1
    obtain ⟨_, _, rfl⟩ := h1
    exact ⟨h2, h3⟩
theorem own_lo {w : World} {B g : Nat} {n c : Nat} {xs : List Int} (h : Own w B (.slice (some ⟨g, 0, none⟩) n c) xs) : B ≤ g := by
  rcases h.form with ⟨h1, _⟩ | ⟨g', cap, h1, h2, _⟩
  · simp at h1
  · simp only [Value.slice.injEq, Option.some.injEq, Addr.mk.injEq] at h1
    obtain ⟨⟨rfl, _⟩, _⟩ := h1
    exact h2
theorem own_lo' {w : World} {B : Nat} {A : Option Addr} {n c : Nat} {xs : List Int} (h : Own w B (.slice A n c) xs) : ∀ ad, A = some ad → B ≤ ad.block := by
  rintro ad rfl
  rcases h.form with ⟨h1, _⟩ | ⟨g', cap, h1, h2, _⟩
  · simp at h1
  · simp only [Value.slice.injEq, Option.some.injEq] at h1
    obtain ⟨rfl, _⟩ := h1
    exact h2
theorem below_drewN_trans {A C D : World} {B n : Nat} (h : Below B A C) (k : Below B (C.drewN n) D) : Below B A D := (below_drewN h n).trans k
end Go.Proofs.Ytiodikflmijhkaa
