/- Permutations of the program: listed, one after the other, turned, what stays; the exported functions of these. -/
import Derived.Test.YtiodikflmijhkaaC101
import Derived.Maps.AppendAt
import Derived.Lib.LazyBuf
namespace Go.Proofs.Ytiodikflmijhkaa
open Go.RowKit
set_option linter.unusedVariables false
attribute [local irreducible] cN syn

/-- Some elements more, out of a slice. -/
theorem wpList_more {ops : Array Oper} {rest : List Oper} {o : Oper} {a : Act} {Q : Exit → Act → World → Prop} (hgd : o.guard = none) (s y : Operand)
    (ho : o.op = .call { callee := .builtin .append, args := #[s, y], argTypes := #[22, 22] })
    (w : World) (B : Nat) (v : Value) (xs ys : List Int) (n b c : Nat) (hs : a.eval s = v) (hn : ys.length = n) (hy : a.eval y = .slice (some ⟨b, 0, none⟩) n c)
    (hcell : ∀ j, j < ys.length → w.cell? ⟨b, j, none⟩ = some (.int .i64 (ys.getD j 0))) (hown : Own w B v xs) (hlen : xs.length ≤ 1048576) (hyl : ys.length ≤ 1048576) (hy0 : 0 < ys.length) (hB : B ≤ w.heap.size)
    (h : ∀ v' w', Own w' B v' (xs ++ ys) → Below B w w' → w.grownBy w' v.ownBlock → wpList Try.prog ops Q rest (a.put o.dst v') w') :
    wpList Try.prog ops Q (o :: rest) a w := by
  subst hn
  obtain ⟨i0, hi, hz0, hz1, hz2⟩ := info_parts intRow
  refine wpList_append_own_at _ hgd s y 22 ho B 3 i0 (.int .i64 0) 1 8 Try.underlying22 hi hz0 hz1 hz2 rfl (by decide) v xs.length (vals .i64 xs) hs
    hown ⟨b, 0, none⟩ ys.length c (vals .i64 ys) hy (by rw [vals_len, Nat.mul_one]) ?_ ?_ ?_ ?_ ?_ ?_
  · intro j u hj
    have hjl : j < ys.length := by
      have := (List.getElem?_eq_some_iff.1 hj).1
      rwa [vals_len] at this
    have e := vals_get .i64 ys j hjl
    rw [e] at hj
    cases hj
    have := hcell j hjl
    have ea : (⟨b, 0, none⟩ : Addr).add j = ⟨b, j, none⟩ := by unfold Addr.add; split <;> simp_all
    rw [ea]
    exact this
  · intro u hu
    obtain ⟨x, _, rfl⟩ := List.mem_map.1 (show u ∈ ys.map (Value.int .i64) from hu)
    rfl
  · unfold maxLen; omega
  · omega
  · exact hB
  · intro v' w' h1 h2 _ _
    refine h v' w' ?_ ((Below.refl B w).grown h2 hB (own_row_ge hown)) h2
    unfold Own
    rw [vals_append]
    simpa using h1
end Go.Proofs.Ytiodikflmijhkaa
