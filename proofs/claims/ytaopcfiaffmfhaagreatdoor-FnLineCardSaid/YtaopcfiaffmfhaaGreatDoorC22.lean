/- Contracts of the model's exported functions of chapter 2. -/
import Derived.Test.YtaopcfiaffmfhaaGreatDoorQ2
import Derived.Test.YtaopcfiaffmfhaaGreatDoorQ5
namespace Go.Proofs.YtaopcfiaffmfhaaGreatDoor
open Go.RowKit
set_option linter.unusedVariables false

theorem six_cells2 {w : World} {A : Option Addr} {k : IntKind} {B : Nat} {d0 d1 d2 d3 d4 d5 : Int} (hr : Rds w B k A [d0, d1, d2, d3, d4, d5]) : ∃ b o, A = some ⟨b, o, none⟩ ∧ b < B ∧
    w.cell? ⟨b, o, none⟩ = some (.int k d0) ∧ w.cell? ⟨b, o + 1, none⟩ = some (.int k d1) ∧ w.cell? ⟨b, o + 2, none⟩ = some (.int k d2) ∧ w.cell? ⟨b, o + 3, none⟩ = some (.int k d3) ∧ w.cell? ⟨b, o + 4, none⟩ = some (.int k d4) ∧ w.cell? ⟨b, o + 5, none⟩ = some (.int k d5) := by
  rcases hr with h | ⟨b, o, h1, h2, h3⟩
  · simp at h
  · exact ⟨b, o, h1, h2, h3 0 (by simp), h3 1 (by simp), h3 2 (by simp), h3 3 (by simp), h3 4 (by simp), h3 5 (by simp)⟩
theorem l2Times_d (a b : Int) (w : World) (ha : IsD a) (hb : IsD b) : Calls Tryz.prog 115 #[.int .i64 a, .int .i64 b] w fun e w' => e = .returned (.int .i64 (mulD a b)) ∧ w = w' := l2Times_calls a b w ha.1 ha.2 hb.1 hb.2
end Go.Proofs.YtaopcfiaffmfhaaGreatDoor
