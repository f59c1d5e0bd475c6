/- Appending a row to a list of lists. -/
import Derived.Test.YtnfpdonlknkccacDoorQ7
import Derived.Test.YtnfpdonlknkccacDoorC66
namespace Go.Proofs.YtnfpdonlknkccacDoor
open Go.RowKit
set_option linter.unusedVariables false

theorem rowInfoSS : (Tryd.prog.info? 28).map (fun i => (i.zero, i.size, i.bytes)) = some (some (.slice none 0 0), 1, 24) := by kernel_rfl
/-- An append of one row, with where the new outer slice lies. -/
theorem wpList_pushRow {ops : Array Oper} {rest : List Oper} {o : Oper} {a : Act} {Q : Exit → Act → World → Prop} (hgd : o.guard = none) (s y : Operand)
    (ho : o.op = .call { callee := .builtin .append, args := #[s, y], argTypes := #[24, 24] })
    (w : World) (B : Nat) (v : Value) (vs : List Value) (A : Option Addr) (m q c : Nat) (hs : a.eval s = v) (hy : a.eval y = .slice (some ⟨w.heap.size, 0, none⟩) 1 c)
    (hown : w.ownsRow B 28 1 v vs.length vs) (hlen : vs.length ≤ 1048576) (hB : B ≤ w.heap.size)
    (h : ∀ v' w', w'.ownsRow B 28 1 v' (vs.length + 1) (vs ++ [.slice A m q]) → Below B w w' → w.grownBy w' v.ownBlock → (∀ k, v'.ownBlock = some k → v.ownBlock = some k ∨ w.heap.size ≤ k) → wpList Tryd.prog ops Q rest (a.put o.dst v') w') :
    wpList Tryd.prog ops Q (o :: rest) a (w.alloc (.cells #[.slice A m q] 28)) := by
  obtain ⟨i0, hi, hz0, hz1, hz2⟩ := info_parts rowInfoSS
  refine wpList_append_own_at _ hgd s y 24 ho B 28 i0 (.slice none 0 0) 1 24 Tryd.underlying24 hi hz0 hz1 hz2 rfl (by decide) v vs.length vs hs
    (World.ownsRow.alloc hown _) ⟨w.heap.size, 0, none⟩ 1 c [.slice A m q] hy rfl ?_ ?_ (by unfold maxLen; omega) (by omega) (by simp; omega) ?_
  · intro j u hj
    match j, hj with
    | 0, hj => simp at hj; subst hj; simp [Addr.add]
  · intro u hu; simp at hu; subst hu; rfl
  · intro v' w' h1 h2 _ h3
    have hg : w.grownBy w' v.ownBlock := grown_trans (World.grownBy_alloc w _ _) h2
    refine h v' w' (by simpa using h1) ((Below.refl B w).grown hg hB ?_) hg ?_
    · intro k hk
      rcases hown.2 with ⟨e, _⟩ | ⟨g, cap, cur, e, h2, _⟩
      · subst e; simp [Value.ownBlock] at hk
      · subst e; simp [Value.ownBlock] at hk; omega
    · intro k hk
      rcases h3 with h3 | h3
      · exact .inl (h3 ▸ hk)
      · rw [h3] at hk
        simp at hk
        exact .inr (by omega)
end Go.Proofs.YtnfpdonlknkccacDoor
