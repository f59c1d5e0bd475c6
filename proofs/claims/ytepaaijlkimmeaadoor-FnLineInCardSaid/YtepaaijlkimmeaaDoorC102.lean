/- Permutations of the program: listed, one after the other, turned, what stays; the exported functions of these. -/
import Derived.Test.YtepaaijlkimmeaaDoorC101
import Derived.Maps.AppendAt
import Derived.Lib.LazyBuf
namespace Go.Proofs.YtepaaijlkimmeaaDoor
open Go.RowKit
set_option linter.unusedVariables false
attribute [local irreducible] cN syn

/-- Some elements more, out of a slice. -/
theorem wpList_more {ops : Array Oper} {rest : List Oper} {o : Oper} {a : Act} {Q : Exit → Act → World → Prop} (hgd : o.guard = none) (s y : Operand)
    (ho : o.op = .call { callee := .builtin .append, args := #[s, y], argTypes := #[25, 25] })
    (w : World) (B : Nat) (v : Value) (xs ys : List Int) (n b c : Nat) (hs : a.eval s = v) (hn : ys.length = n) (hy : a.eval y = .slice (some ⟨b, 0, none⟩) n c)
    (hcell : ∀ j, j < ys.length → w.cell? ⟨b, j, none⟩ = some (.int .i64 (ys.getD j 0))) (hown : Own w B v xs) (hlen : xs.length ≤ 1048576) (hyl : ys.length ≤ 1048576) (hy0 : 0 < ys.length) (hB : B ≤ w.heap.size)
    (h : ∀ v' w', Own w' B v' (xs ++ ys) → Below B w w' → w.grownBy w' v.ownBlock → wpList Tryd.prog ops Q rest (a.put o.dst v') w') :
    wpList Tryd.prog ops Q (o :: rest) a w := by
  subst hn
  obtain ⟨i0, hi, hz0, hz1, hz2⟩ := info_parts intRow
  refine wpList_append_own_at _ hgd s y 25 ho B 3 i0 (.int .i64 0) 1 8 Tryd.underlying25 hi hz0 hz1 hz2 rfl (by decide) v xs.length (vals .i64 xs) hs
    hown ⟨b, 0, none⟩ ys.length c (vals .i64 ys) hy (by rw [vals_len, Nat.mul_one]) ?_ ?_ ?_ ?_ ?_ ?_
  · intro j u hj
    have hjl : j < ys.length := by
      have := (List.getElem?_eq_some_iff.1 hj).1
      rwa [vals_len] at this
    have e := vals_get .i64 ys j hjl
    rw [e] at hj
    cases hj
    have := hcell j hjl
    have ea : (⟨b, 0, none⟩ : Addr).add j = ⟨b, j, none⟩ := by unfold Addr.add; split <;> simp_all
    rw [ea]
    exact this
  · intro u hu
    obtain ⟨x, _, rfl⟩ := List.mem_map.1 (show u ∈ ys.map (Value.int .i64) from hu)
    rfl
  · unfold maxLen; omega
  · omega
  · exact hB
  · intro v' w' h1 h2 _ _
    refine h v' w' ?_ ((Below.refl B w).grown h2 hB (own_row_ge hown)) h2
    unfold Own
    rw [vals_append]
    simpa using h1
set_option maxHeartbeats 1000000 in
theorem clone_calls (g : Nat) (xs : List Int) (w : World) (t : TypeId) (hg : w.heap[g]? = some (.cells (VL xs) t (0, 0))) (hl : xs.length = 24) :
    Calls Tryd.prog 54 #[.slice (some ⟨g, 0, none⟩) 24 24] w fun e w' => ∃ v, e = .returned v ∧ Own w' w.heap.size v xs ∧ Below w.heap.size w w' := by
  have HL := Lib.hid hl
  have HC := Lib.hid (fun (W : World) (h : Below w.heap.size w W) j (hj : j < xs.length) => show W.cell? ⟨g, j, none⟩ = some (.int .i64 (xs.getD j 0)) by
    rw [h.cell (show g < w.heap.size from (Array.getElem?_eq_some_iff.1 hg).1)]
    exact VL_at xs hj hg)
  have HE := Lib.hid (own_empty2 w w.heap.size (Nat.le_refl _))
  have HB := Lib.hid ((Below.refl w.heap.size w).alloc (Nat.le_refl _) (.cells #[] 3))
  have q22 : ∀ (w : World) (a : Option Addr) (n c : Nat), (binOp .eql 25 (.slice a n c) (.slice none 0 0)).run Tryd.prog w = .ok (.bool a.isNone) w := fun w a n c => run_eql_slice_nil w _ _ a n c Tryd.underlying25
  clear hg hl
  go_enter Tryd.func54, Tryd.ntmps54
  go_wp2_with (at_builtin; refine wpList_more rfl _ _ rfl _ w.heap.size (.slice (some ⟨w.heap.size, 0, none⟩) 0 0) [] xs 24 g 24 rfl HL.out rfl (HC.out _ HB.out) HE.out (by simp) (by rw [HL.out]; decide) (by rw [HL.out]; decide) (by simp) ?_; intro v2 w2 ho2 hb2 hg2; rw [List.nil_append] at ho2)
  go_ret
  exact ⟨_, rfl, ho2, HB.out.trans hb2⟩
set_option maxHeartbeats 1000000 in
theorem pmList_calls (xs : List Int) (w : World) (hl : xs.length = 24) :
    Calls Tryd.prog 27 #[.agg (VL xs)] w fun e w' => ∃ v, e = .returned v ∧ Own w' w.heap.size v xs ∧ Below w.heap.size w w' := by
  have HB := Lib.hid ((Below.refl w.heap.size w).alloc (Nat.le_refl _) (.cells (VL xs) 46))
  have HC := Lib.hid (fun W (h : W = w.alloc (.cells (VL xs) 46)) => clone_calls w.heap.size xs W 46 (by rw [h]; exact Blk.new w _ _) hl)
  clear hl
  generalize hV : VL xs = V at *
  clear hV
  go_enter Tryd.func27, Tryd.ntmps27
  go_wp2_with fail
  refine (HC.out _ rfl).mono ?_
  rintro e w2 ⟨v, rfl, o2, b2⟩
  go_wp2_with fail
  go_ret
  exact ⟨_, rfl, o2.weak HB.out.size, HB.out.trans (b2.mono HB.out.size)⟩
end Go.Proofs.YtepaaijlkimmeaaDoor
