/- Contracts of the sum of two rows, of the program and of its model. -/
import Derived.Test.YtojjbdpoecmaeaaDoorC16
import Derived.Deep.RegionHeld3
import Derived.Deep.AppendLies
namespace Go.Proofs.YtojjbdpoecmaeaaDoor
open Go.RowKit
set_option linter.unusedVariables false

theorem own_empty2 (w : World) (B : Nat) (hB : B ≤ w.heap.size) : Own (w.alloc (.cells #[] 3)) B (.slice (some ⟨w.heap.size, 0, none⟩) 0 0) [] :=
  ⟨rfl, .inr ⟨w.heap.size, 0, _, rfl, hB, heap_alloc_new w _, by simp, by unfold maxLen; omega, by simp, by simp [vals]⟩⟩
set_option maxHeartbeats 1000000 in
theorem iHexAdd_calls (A A2 : Option Addr) (c c2 : Nat) (xs ys : List Int) (w : World) (ha : Rds w w.heap.size .i64 A xs) (hx : xs.length ≤ maxLen) (ha2 : Rds w w.heap.size .i64 A2 ys) (hy : ys.length ≤ maxLen) :
    Calls Tryd.prog 29 #[.slice A xs.length c, .slice A2 ys.length c2] w (GotL w (hAdd xs ys).1 (hAdd xs ys).2) := by
  rcases hb : rowB xs with _ | _
  · rw [show hAdd xs ys = ([], false) by simp [hAdd, hb]]
    go_enter Tryd.func29, Tryd.ntmps29
    go_wp2_with fail
    refine (twoHexRowsFrom_no1 _ _ _ _ xs ys _ ha hx ((rowB_no xs).1 hb)).mono ?_
    rintro e w1 ⟨rfl, b1⟩
    clear hb
    unfold noRow
    go_wp2_with fail
    go_ret2
    exact ⟨_, rfl, Own.nil_ _ _, (b1.alloc b1.size _).alloc (by have := b1.size; simp only [alloc_sz]; omega) _⟩
  · obtain ⟨d0, d1, d2, d3, d4, d5, rfl, h0, h1, h2, h3, h4, h5⟩ := ((rowB_iff xs).1 hb).six
    rcases hc : rowB ys with _ | _
    · rw [show hAdd [d0, d1, d2, d3, d4, d5] ys = ([], false) by simp [hAdd, hc]]
      clear hb
      show Calls _ _ #[.slice _ 6 _, .slice _ _ _] _ _
      go_enter Tryd.func29, Tryd.ntmps29
      go_wp2_with fail
      refine (twoHexRowsFrom_no2 _ _ _ _ ys d0 d1 d2 d3 d4 d5 _ ha ha2 hy ((rowB_no ys).1 hc) h0 h1 h2 h3 h4 h5).mono ?_
      rintro e w1 ⟨rfl, b1⟩
      clear hc
      unfold noRow
      go_wp2_with fail
      go_ret2
      exact ⟨_, rfl, Own.nil_ _ _, (b1.alloc b1.size _).alloc (by have := b1.size; simp only [alloc_sz]; omega) _⟩
    · obtain ⟨e0, e1, e2, e3, e4, e5, rfl, g0, g1, g2, g3, g4, g5⟩ := ((rowB_iff ys).1 hc).six
      rw [show hAdd [d0, d1, d2, d3, d4, d5] [e0, e1, e2, e3, e4, e5] = ([xorI d0 e0, xorI d1 e1, xorI d2 e2, xorI d3 e3, xorI d4 e4, xorI d5 e5], true) by simp [hAdd, hb, hc, addR]]
      clear hb hc hx hy
      show Calls _ _ #[.slice _ 6 _, .slice _ 6 _] _ _
      go_enter Tryd.func29, Tryd.ntmps29
      go_wp2_with fail
      refine (twoHexRowsFrom_ok _ _ _ _ d0 d1 d2 d3 d4 d5 e0 e1 e2 e3 e4 e5 _ ha ha2 h0 h1 h2 h3 h4 h5 g0 g1 g2 g3 g4 g5).mono ?_
      rintro e w1 ⟨rfl, b1⟩
      have s1 := b1.size
      go_wp2_with fail
      refine (hexRow_add_calls d0 d1 d2 d3 d4 d5 e0 e1 e2 e3 e4 e5 _ h0 h1 h2 h3 h4 h5 g0 g1 g2 g3 g4 g5).mono ?_
      rintro e w2 ⟨rfl, b2⟩
      have s2 := b2.size
      simp only [alloc_sz] at s2
      go_wp2_with fail
      refine (hexRow_list_calls _ _ _ _ _ _ _ (xorI_d h0 g0) (xorI_d h1 g1) (xorI_d h2 g2) (xorI_d h3 g3) (xorI_d h4 g4) (xorI_d h5 g5)).mono ?_
      rintro e w3 ⟨v, rfl, o3, b3⟩
      go_wp2_with fail
      go_ret2
      have B1 := ((b1.alloc s1 _).alloc (by simp only [alloc_sz]; omega) _).trans (b2.mono (by simp only [alloc_sz]; omega))
      exact ⟨_, rfl, o3.weak (by omega), B1.trans (b3.mono (by omega))⟩
theorem step_push {ops : Array Oper} {o : Oper} {a : Act} {K : Act → World → Prop} {Q : Exit → Act → World → Prop} {E : Prop} (hgd : o.guard = none) (s y : Operand)
    (ho : o.op = .call { callee := .builtin .append, args := #[s, y], argTypes := #[29, 29] })
    (w : World) (B : Nat) (v : Value) (xs : List Int) (x : Int) (c : Nat) (hs : a.eval s = v) (hy : a.eval y = .slice (some ⟨w.heap.size, 0, none⟩) 1 c)
    (hown : Own w B v xs) (hlen : xs.length ≤ 1048576) (hB : B ≤ w.heap.size)
    (h : ∀ v' w', Own w' B v' (xs ++ [x]) → Below B w w' → w.grownBy w' v.ownBlock → K (a.put o.dst v') w') :
    if Region.wanted o (yielded ops a.tmps) = true then Oper.wp Tryd.prog o a (World.drew (w.alloc (.cells #[.int .i64 x] 3))) K Q else E := by
  obtain ⟨i0, hi, hz0, hz1, hz2⟩ := info_parts intRow
  refine step_append_lies _ hgd s y 29 ho B 3 i0 (.int .i64 0) 1 8 Tryd.underlying29 hi hz0 hz1 hz2 rfl (by decide) v xs.length (vals .i64 xs) hs
    (World.ownsRow.alloc hown _) ⟨w.heap.size, 0, none⟩ 1 c [.int .i64 x] hy rfl ?_ ?_ (by omega) (by unfold maxLen; omega) (by omega) (by show B ≤ (w.alloc _).heap.size; simp; omega) _ rfl ?_
  · intro j u hj
    match j, hj with
    | 0, hj =>
      simp at hj; subst hj
      exact cell_new w #[.int .i64 x] _ 0 _ rfl
  · intro u hu; simp at hu; subst hu; rfl
  · intro g cap w' h1 h2 _ _
    have h2' : (w.alloc (.cells #[.int .i64 x] 3)).grownBy w' v.ownBlock := ⟨h2.os, h2.tape, h2.output, h2.size, h2.block⟩
    have hg : w.grownBy w' v.ownBlock := grown_trans (World.grownBy_alloc w _ _) h2'
    refine h _ w' ?_ ((Below.refl B w).grown hg hB (own_row_ge hown)) hg
    unfold Own
    rw [vals_append, show vals .i64 [x] = [Value.int .i64 x] from rfl, List.length_append]
    simpa using h1
theorem addR_len (xs ys : List Int) (h : xs.length = 6) (h2 : ys.length = 6) : (addR xs ys).length = 6 := by simp [addR, h, h2]
theorem addR_step (xs ys : List Int) (k : Nat) (h : k < 6) (hx : IsRow6 xs) (hy : IsRow6 ys) : (addR xs ys).take k ++ [xorI (xs.getD k 0) (ys.getD k 0)] = (addR xs ys).take (k + 1) := by
  have hl := addR_len xs ys hx.1 hy.1
  rw [take_succ_getD _ k (by omega), addR_get hx hy k h]
set_option maxHeartbeats 2000000 in
theorem sHexAdd_calls (A A2 : Option Addr) (c c2 : Nat) (xs ys : List Int) (w : World) (ha : Rds w w.heap.size .i64 A xs) (hx : xs.length ≤ maxLen) (ha2 : Rds w w.heap.size .i64 A2 ys) (hy : ys.length ≤ maxLen) :
    Calls Tryd.prog 32 #[.slice A xs.length c, .slice A2 ys.length c2] w (GotL w (hAdd xs ys).1 (hAdd xs ys).2) := by
  obtain ⟨i0, hi, hz0, hz1, hz2⟩ := info_parts intRow
  have HE := Lib.hid (own_empty2 w w.heap.size (Nat.le_refl _))
  have HA := Lib.hid ((ha.alloc (Nat.le_refl _) (.cells #[] 3)).more (show w.heap.size ≤ (w.alloc (.cells #[] 3)).heap.size by simp))
  have HA2 := Lib.hid ((ha2.alloc (Nat.le_refl _) (.cells #[] 3)).more (show w.heap.size ≤ (w.alloc (.cells #[] 3)).heap.size by simp))
  rcases hb : rowB xs with _ | _
  · rw [show hAdd xs ys = ([], false) by simp [hAdd, hb]]
    go_enter Tryd.func32, Tryd.ntmps32
    go_wp2_with (go_at_call 60; refine (l2Row_calls _ _ xs _ HA.out hx).mono ?_; rintro e w' ⟨he, rfl⟩; rw [hb] at he; subst he)
    go_ret2
    exact ⟨_, rfl, HE.out, (Below.refl _ _).alloc (Nat.le_refl _) _⟩
  · rcases hc : rowB ys with _ | _
    · rw [show hAdd xs ys = ([], false) by simp [hAdd, hc]]
      go_enter Tryd.func32, Tryd.ntmps32
      go_wp2_with fail
      refine (l2Row_calls _ _ xs _ HA.out hx).mono ?_
      rintro e w' ⟨he, rfl⟩
      rw [hb] at he; subst he
      go_wp2_with fail
      refine (l2Row_calls _ _ ys _ HA2.out hy).mono ?_
      rintro e w' ⟨he, rfl⟩
      rw [hc] at he; subst he
      go_wp2_with fail
      go_ret2
      exact ⟨_, rfl, HE.out, (Below.refl _ _).alloc (Nat.le_refl _) _⟩
    · rw [show hAdd xs ys = (addR xs ys, true) by simp [hAdd, hb, hc]]
      have hrx := (rowB_iff xs).1 hb
      have hry := (rowB_iff ys).1 hc
      have HST := Lib.hid (fun k h => addR_step xs ys k h hrx hry)
      have HL := Lib.hid hrx.1
      have HL2 := Lib.hid hry.1
      have HLX := Lib.hid (addR_len xs ys hrx.1 hry.1)
      have HD := Lib.hid hrx.get
      have HD2 := Lib.hid hry.get
      clear hrx hry
      generalize addR xs ys = zs at *
      go_enter Tryd.func32, Tryd.ntmps32
      go_wp2_with fail
      refine (l2Row_calls _ _ xs _ HA.out hx).mono ?_
      rintro e w' ⟨he, rfl⟩
      rw [hb] at he; subst he
      go_wp2_with fail
      refine (l2Row_calls _ _ ys _ HA2.out hy).mono ?_
      rintro e w' ⟨he, rfl⟩
      rw [hc] at he; subst he
      clear hb hc hx hy
      go_wp2_with fail
      go_loopw [6, 7] (fun v i wr => ∃ k : Nat, k ≤ 6 ∧ i = .int .i64 k ∧ Hid (Own wr w.heap.size v (zs.take k)) ∧ Hid (Below w.heap.size w wr)) (fun _ i _ => 6 - (intOf i).toNat)
      case atStart => exact ⟨0, by omega, rfl, HE, Lib.hid ((Below.refl _ _).alloc (Nat.le_refl _) _)⟩
      case round =>
        obtain ⟨k, hk, rfl, ho, hb⟩ := hrel
        clear HE HA HA2
        by_cases hlt : k < 6
        · obtain ⟨B1, o1, rfl, hB1, c1⟩ := (ha.below hb.out).at_ (j := k) (by have := HL.out; omega)
          obtain ⟨B2, o2, rfl, hB2, c2'⟩ := (ha2.below hb.out).at_ (j := k) (by have := HL2.out; omega)
          have HS := Lib.hid (HST.out k hlt)
          have hd := HD.out k
          have hd2 := HD2.out k
          have k1 : (k : Int) < xs.length := by have := HL.out; omega
          have k2 : (k : Int) < ys.length := by have := HL2.out; omega
          have hlen : (zs.take k).length ≤ 6 := by rw [List.length_take]; omega
          generalize xs.getD k 0 = x at *
          generalize ys.getD k 0 = y at *
          have hxy : bits .xor .i64 x y = xorI x y := xor_i64 _ _ hd.1 (by have := hd.2; omega) hd2.1 (by have := hd2.2; omega)
          have hsz := hb.out.size
          have l1 : B1 < wr.heap.size := by omega
          have l2 : B2 < wr.heap.size := by omega
          go_wp2_with fail
          go_region_held3 (fun w' => w'.cell? ⟨B1, o1 + k, none⟩ = some (.int .i64 x) ∧ w'.cell? ⟨B2, o2 + k, none⟩ = some (.int .i64 y))
            (first | go_keep | (go_split_ands; exact ⟨(hb2.cell (p := ⟨B1, o1 + k, none⟩) hB1).trans (by assumption), (hb2.cell (p := ⟨B2, o2 + k, none⟩) hB2).trans (by assumption)⟩))
            ((refine step_push rfl _ _ (by rfl) wr w.heap.size u6 (zs.take k) (xorI x y) 1 (by rfl) (by rfl) ho.out (by omega) hsz ?_; intro v2 w2 ho2 hb2 hg2))
          rw [HS.out] at ho2
          go_wp2
          go_roundw
          case rel => exact ⟨k + 1, by omega, by go_num, Lib.hid ho2, Lib.hid (hb.out.trans hb2)⟩
          case measure => simp [intOf]; omega
        · obtain rfl : k = 6 := by omega
          have ho2 := ho.out
          rw [List.take_of_length_le (by rw [HLX.out]; omega)] at ho2
          have HO := Lib.hid ho2
          clear ho2 ho
          go_wp2
          go_ret2
          exact ⟨_, rfl, HO.out, hb.out⟩
end Go.Proofs.YtojjbdpoecmaeaaDoor
