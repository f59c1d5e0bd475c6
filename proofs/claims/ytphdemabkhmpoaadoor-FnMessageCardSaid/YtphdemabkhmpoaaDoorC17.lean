/- Contracts of the sum of two rows, of the program and of its model. -/
import Derived.Test.YtphdemabkhmpoaaDoorC16
import Derived.Deep.RegionHeld3
import Derived.Deep.AppendLies
namespace Go.Proofs.YtphdemabkhmpoaaDoor
open Go.RowKit
set_option linter.unusedVariables false

theorem own_empty2 (w : World) (B : Nat) (hB : B ≤ w.heap.size) : Own (w.alloc (.cells #[] 3)) B (.slice (some ⟨w.heap.size, 0, none⟩) 0 0) [] :=
  ⟨rfl, .inr ⟨w.heap.size, 0, _, rfl, hB, heap_alloc_new w _, by simp, by unfold maxLen; omega, by simp, by simp [vals]⟩⟩
set_option maxHeartbeats 1000000 in
theorem iHexAdd_calls (A A2 : Option Addr) (c c2 : Nat) (xs ys : List Int) (w : World) (ha : Rds w w.heap.size .i64 A xs) (hx : xs.length ≤ maxLen) (ha2 : Rds w w.heap.size .i64 A2 ys) (hy : ys.length ≤ maxLen) :
    Calls Tryd.prog 16 #[.slice A xs.length c, .slice A2 ys.length c2] w (GotL w (hAdd xs ys).1 (hAdd xs ys).2) := by
  rcases hb : rowB xs with _ | _
  · rw [show hAdd xs ys = ([], false) by simp [hAdd, hb]]
    go_enter Tryd.func16, Tryd.ntmps16
    go_wp2_with fail
    refine (twoHexRowsFrom_no1 _ _ _ _ xs ys _ ha hx ((rowB_no xs).1 hb)).mono ?_
    rintro e w1 ⟨rfl, b1⟩
    clear hb
    unfold noRow
    go_wp2_with fail
    go_ret2
    exact ⟨_, rfl, Own.nil_ _ _, (b1.alloc b1.size _).alloc (by have := b1.size; simp only [alloc_sz]; omega) _⟩
  · obtain ⟨d0, d1, d2, d3, d4, d5, rfl, h0, h1, h2, h3, h4, h5⟩ := ((rowB_iff xs).1 hb).six
    rcases hc : rowB ys with _ | _
    · rw [show hAdd [d0, d1, d2, d3, d4, d5] ys = ([], false) by simp [hAdd, hc]]
      clear hb
      show Calls _ _ #[.slice _ 6 _, .slice _ _ _] _ _
      go_enter Tryd.func16, Tryd.ntmps16
      go_wp2_with fail
      refine (twoHexRowsFrom_no2 _ _ _ _ ys d0 d1 d2 d3 d4 d5 _ ha ha2 hy ((rowB_no ys).1 hc) h0 h1 h2 h3 h4 h5).mono ?_
      rintro e w1 ⟨rfl, b1⟩
      clear hc
      unfold noRow
      go_wp2_with fail
      go_ret2
      exact ⟨_, rfl, Own.nil_ _ _, (b1.alloc b1.size _).alloc (by have := b1.size; simp only [alloc_sz]; omega) _⟩
    · obtain ⟨e0, e1, e2, e3, e4, e5, rfl, g0, g1, g2, g3, g4, g5⟩ := ((rowB_iff ys).1 hc).six
      rw [show hAdd [d0, d1, d2, d3, d4, d5] [e0, e1, e2, e3, e4, e5] = ([xorI d0 e0, xorI d1 e1, xorI d2 e2, xorI d3 e3, xorI d4 e4, xorI d5 e5], true) by simp [hAdd, hb, hc, addR]]
      clear hb hc hx hy
      show Calls _ _ #[.slice _ 6 _, .slice _ 6 _] _ _
      go_enter Tryd.func16, Tryd.ntmps16
      go_wp2_with fail
      refine (twoHexRowsFrom_ok _ _ _ _ d0 d1 d2 d3 d4 d5 e0 e1 e2 e3 e4 e5 _ ha ha2 h0 h1 h2 h3 h4 h5 g0 g1 g2 g3 g4 g5).mono ?_
      rintro e w1 ⟨rfl, b1⟩
      have s1 := b1.size
      go_wp2_with fail
      refine (hexRow_add_calls d0 d1 d2 d3 d4 d5 e0 e1 e2 e3 e4 e5 _ h0 h1 h2 h3 h4 h5 g0 g1 g2 g3 g4 g5).mono ?_
      rintro e w2 ⟨rfl, b2⟩
      have s2 := b2.size
      simp only [alloc_sz] at s2
      go_wp2_with fail
      refine (hexRow_list_calls _ _ _ _ _ _ _ (xorI_d h0 g0) (xorI_d h1 g1) (xorI_d h2 g2) (xorI_d h3 g3) (xorI_d h4 g4) (xorI_d h5 g5)).mono ?_
      rintro e w3 ⟨v, rfl, o3, b3⟩
      go_wp2_with fail
      go_ret2
      have B1 := ((b1.alloc s1 _).alloc (by simp only [alloc_sz]; omega) _).trans (b2.mono (by simp only [alloc_sz]; omega))
      exact ⟨_, rfl, o3.weak (by omega), B1.trans (b3.mono (by omega))⟩
theorem step_push {ops : Array Oper} {o : Oper} {a : Act} {K : Act → World → Prop} {Q : Exit → Act → World → Prop} {E : Prop} (hgd : o.guard = none) (s y : Operand)
    (ho : o.op = .call { callee := .builtin .append, args := #[s, y], argTypes := #[24, 24] })
    (w : World) (B : Nat) (v : Value) (xs : List Int) (x : Int) (c : Nat) (hs : a.eval s = v) (hy : a.eval y = .slice (some ⟨w.heap.size, 0, none⟩) 1 c)
    (hown : Own w B v xs) (hlen : xs.length ≤ 1048576) (hB : B ≤ w.heap.size)
    (h : ∀ v' w', Own w' B v' (xs ++ [x]) → Below B w w' → w.grownBy w' v.ownBlock → K (a.put o.dst v') w') :
    if Region.wanted o (yielded ops a.tmps) = true then Oper.wp Tryd.prog o a (World.drew (w.alloc (.cells #[.int .i64 x] 3))) K Q else E := by
  obtain ⟨i0, hi, hz0, hz1, hz2⟩ := info_parts intRow
  refine step_append_lies _ hgd s y 24 ho B 3 i0 (.int .i64 0) 1 8 Tryd.underlying24 hi hz0 hz1 hz2 rfl (by decide) v xs.length (vals .i64 xs) hs
    (World.ownsRow.alloc hown _) ⟨w.heap.size, 0, none⟩ 1 c [.int .i64 x] hy rfl ?_ ?_ (by omega) (by unfold maxLen; omega) (by omega) (by show B ≤ (w.alloc _).heap.size; simp; omega) _ rfl ?_
  · intro j u hj
    match j, hj with
    | 0, hj =>
      simp at hj; subst hj
      exact cell_new w #[.int .i64 x] _ 0 _ rfl
  · intro u hu; simp at hu; subst hu; rfl
  · intro g cap w' h1 h2 _ _
    have h2' : (w.alloc (.cells #[.int .i64 x] 3)).grownBy w' v.ownBlock := ⟨h2.os, h2.tape, h2.output, h2.size, h2.block⟩
    have hg : w.grownBy w' v.ownBlock := grown_trans (World.grownBy_alloc w _ _) h2'
    refine h _ w' ?_ ((Below.refl B w).grown hg hB (own_row_ge hown)) hg
    unfold Own
    rw [vals_append, show vals .i64 [x] = [Value.int .i64 x] from rfl, List.length_append]
    simpa using h1
end Go.Proofs.YtphdemabkhmpoaaDoor
