/- The nearest words, of the model: gathered in ascending order; what comes of them. -/
import Derived.Test.YtcfhfllcdliaoaaGreatDoorC28
import Derived.Test.YtcfhfllcdliaoaaGreatDoorP2
import Derived.Test.YtcfhfllcdliaoaaGreatDoorQ2
import Derived.Deep.RegionLaw
namespace Go.Proofs.YtcfhfllcdliaoaaGreatDoor
open Go.RowKit
attribute [local go_sem] Oper.semAt_some
set_option linter.unusedVariables false

/-- The list is in a block, not the nil one. -/
def OwnS (w : World) (B : Nat) (v : Value) (xs : List Int) : Prop := Own w B v xs ∧ ∃ g c, v = .slice (some ⟨g, 0, none⟩) xs.length c
theorem insPos_eq (x : Int) (L : List Int) (j : Nat) : (x < L.getD j 0 → insPos x L (j + 1) = insPos x L j) ∧ (¬ x < L.getD j 0 → insPos x L (j + 1) = j + 1) := by
  simp only [insPos]
  exact ⟨fun h => if_pos h, fun h => if_neg h⟩
theorem step_app {ops : Array Oper} {o : Oper} {a : Act} {K : Act → World → Prop} {Q : Exit → Act → World → Prop} {E : Prop} (hgd : o.guard = none) (s y : Operand)
    (ho : o.op = .call { callee := .builtin .append, args := #[s, y], argTypes := #[61, 61] })
    (w : World) (B : Nat) (v : Value) (xs ys : List Int) (ad : Addr) (m c : Nat) (hs : a.eval s = v) (hy : a.eval y = .slice (some ad) m c) (hm : ys.length = m)
    (hown : OwnS w B v xs) (hc : ∀ j, j < ys.length → w.cell? (ad.add j) = some (.int .i64 (ys.getD j 0))) (hlen : xs.length + ys.length ≤ 1048576) (hB : B ≤ w.heap.size)
    (h : ∀ v' w', OwnS w' B v' (xs ++ ys) → Below B w w' → w.grownBy w' v.ownBlock → B ≤ w'.heap.size → K (a.put o.dst v') w') :
    if Region.wanted o (yielded ops a.tmps) = true then Oper.wp Tryz.prog o a w K Q else E := by
  have hw : Region.wanted o (yielded ops a.tmps) = true := by simp [Region.wanted, hgd]
  rw [if_pos hw]
  obtain ⟨i0, hi, hz0, hz1, hz2⟩ := info_parts intRow
  subst hm
  obtain ⟨v', w', hrun, h2, h3, h4⟩ := run_append_own (P := Tryz.prog) w B 61 o.type 3 i0 (.int .i64 0) 1 8 Tryz.underlying61 hi hz0 hz1 hz2 rfl (by decide) v xs.length (vals .i64 xs) hown.1 ad ys.length c (vals .i64 ys) (by simp [vals])
    (by
      intro j u hj
      have hlt : j < ys.length := by
        have := (List.getElem?_eq_some_iff.1 hj).1
        simpa [vals] using this
      rw [vals_get .i64 ys j hlt] at hj
      cases hj
      exact hc j hlt)
    (by intro u hu; simp only [vals, List.mem_map] at hu; obtain ⟨z, _, rfl⟩ := hu; rfl) (by unfold maxLen; omega) (by omega) hB
  have ho2 : Own w' B v' (xs ++ ys) := by
    unfold Own
    rw [vals_append, List.length_append]
    exact h2
  have hv : ∃ g c, v' = .slice (some ⟨g, 0, none⟩) (xs ++ ys).length c := by
    rcases ho2.form with ⟨h5, h6⟩ | ⟨g, c, h5, _⟩
    · obtain ⟨h7, _⟩ := h4.1 h5
      obtain ⟨_, g, c', h8⟩ := hown
      rw [h7] at h8
      cases h8
    · exact ⟨g, c, h5⟩
  have hK := h v' w' ⟨ho2, hv⟩ ((Below.refl B w).grown h3 hB (own_row_ge hown.1)) h3 (Nat.le_trans hB h3.size)
  unfold Oper.wp
  simp [execOp, ho, resolve, invoke, builtin, hs, hy, hrun, Result.andThen]
  exact hK
theorem OwnS.alloc {w : World} {B : Nat} {v : Value} {xs : List Int} (h : OwnS w B v xs) (o : Obj) : OwnS (w.alloc o) B v xs := ⟨h.1.alloc o, h.2⟩
theorem OwnS.drew {w : World} {B : Nat} {v : Value} {xs : List Int} (h : OwnS w B v xs) : OwnS w.drew B v xs := h
theorem ownS_emptyH (w : World) (B H : Nat) (hH : w.heap.size = H) (hB : B ≤ H) : OwnS (w.alloc (.cells #[] 3)) B (.slice (some ⟨H, 0, none⟩) 0 0) [] := by
  subst hH
  exact ⟨own_empty w B hB, _, _, rfl⟩
theorem one_cell {w : World} {b : Nat} {x : Int} (h : w.cell? ⟨b, 0, none⟩ = some (.int .i64 x)) : ∀ j, j < [x].length → w.cell? ((⟨b, 0, none⟩ : Addr).add j) = some (.int .i64 ([x].getD j 0)) := by
  intro j hj
  obtain rfl : j = 0 := by simpa using hj
  simpa [Addr.add] using h
theorem cellX1 (W : World) (x : Value) (t : TypeId) (E : Obj) : ((W.alloc (.cells #[x] t)).alloc E).cell? ⟨W.heap.size, 0, none⟩ = some x :=
  (World.cell?_of_block (Below.heap_alloc _ _ _ (by simp))).trans (cell_new W #[x] t 0 x rfl)
theorem cellX2 (W : World) (x : Value) (t : TypeId) (E : Obj) : ((W.alloc E).alloc (.cells #[x] t)).cell? ⟨W.heap.size + 1, 0, none⟩ = some x := by
  have := cell_new (W.alloc E) #[x] t 0 x rfl
  rwa [World.size_alloc] at this
theorem add_cell {w : World} {g : Nat} {j : Nat} : w.cell? ((⟨g, 0, none⟩ : Addr).add j) = w.cell? ⟨g, j, none⟩ := by
  unfold Addr.add
  by_cases h0 : j = 0
  · subst h0; simp
  · simp [h0]
theorem ownS_empty (w : World) (B : Nat) (hB : B ≤ w.heap.size) : OwnS (w.alloc (.cells #[] 3)) B (.slice (some ⟨w.heap.size, 0, none⟩) 0 0) [] := ⟨own_empty w B hB, _, _, rfl⟩
theorem take_cells {W : World} {B g c : Nat} {L : List Int} {J : Nat} (h : Own W B (.slice (some ⟨g, 0, none⟩) L.length c) L) (hg : g < W.heap.size) :
    ∀ V, Below W.heap.size W V → ∀ i, i < (L.take J).length → V.cell? ((⟨g, 0, none⟩ : Addr).add i) = some (.int .i64 ((L.take J).getD i 0)) := by
  intro V hV i hi
  have hi' : i < J ∧ i < L.length := by simp at hi; omega
  rw [add_cell, hV.cell (p := ⟨g, i, none⟩) hg, h.cell (j := i) hi'.2]
  simp [List.getD_eq_getElem?_getD, hi'.1]
theorem drop_cells {W : World} {B g c : Nat} {L : List Int} {J : Nat} (h : Own W B (.slice (some ⟨g, 0, none⟩) L.length c) L) (hg : g < W.heap.size) (hc : L.length ≤ c) :
    ∃ A : Addr, (if c = J then some (⟨g, 0, none⟩ : Addr) else some ⟨g, J, none⟩) = some A ∧ ∀ V, Below W.heap.size W V → ∀ i, i < (L.drop J).length → V.cell? (A.add i) = some (.int .i64 ((L.drop J).getD i 0)) := by
  by_cases hcJ : c = J
  · refine ⟨_, if_pos hcJ, ?_⟩
    intro V hV i hi
    simp at hi
    omega
  · refine ⟨_, if_neg hcJ, ?_⟩
    intro V hV i hi
    have hi' : J + i < L.length := by simp at hi; omega
    have e : V.cell? ((⟨g, J, none⟩ : Addr).add i) = V.cell? ⟨g, J + i, none⟩ := by
      unfold Addr.add
      by_cases h0 : i = 0
      · subst h0; simp
      · simp [h0]
    rw [e, hV.cell (p := ⟨g, J + i, none⟩) hg, h.cell (j := J + i) hi']
    simp [List.getD_eq_getElem?_getD]
theorem insL_at (x : Int) (L : List Int) (J : Nat) (h : insPos x L L.length = J) : (([] ++ L.take J) ++ [x]) ++ L.drop J = insL x L := by
  unfold insL
  rw [h]
  simp
set_option maxRecDepth 100000 in
set_option maxHeartbeats 4000000 in
theorem l3Near_calls (n : Int) (h0 : 0 ≤ n) (h1 : n ≤ 16777215) (w : World) :
    Calls Tryz.prog 46 #[.int .i64 n] w fun e w' => ∃ v, e = .returned (.tuple #[v, .int .i64 (farI n)]) ∧ Own w' w.heap.size v (nearL n) ∧ Below w.heap.size w w' := by
  have HO := Lib.hid (own_empty w w.heap.size (Nat.le_refl _))
  go_enter Tryz.func46, Tryz.ntmps46
  go_wp2
  go_loopw [4, 5, 6] (fun v d i wr => ∃ k : Nat, k ≤ 4096 ∧ i = .int .i64 k ∧ d = .int .i64 (nearS n k).2 ∧ (∃ g c, v = .slice (some ⟨g, 0, none⟩) (nearS n k).1.length c) ∧ Hid (Own wr w.heap.size v (nearS n k).1) ∧ Hid (Below w.heap.size w wr)) (fun _ _ i _ => 4096 - (intOf i).toNat)
  case atStart => exact ⟨0, by omega, rfl, rfl, ⟨_, _, rfl⟩, HO, Lib.hid ((Below.refl _ _).alloc (Nat.le_refl _) _)⟩
  case round =>
    obtain ⟨k, hk, rfl, rfl, ⟨g, c, rfl⟩, ho, hb⟩ := hrel
    clear HO
    by_cases hlt : k < 4096
    · obtain ⟨hs1, _, hs2, _⟩ := nearS_all n k (by omega)
      have hS : nearS n (k + 1) = nearStepS n (nearS n k) k := rfl
      have hd := dI_range (k : Int) n
      have hdm := least_range n k
      rw [← hs1] at hdm
      have hx := codeOf_range (k : Int)
      have hW : wt (xorI (codeOf (k : Int)) n) = dI k n := rfl
      have hxx : bits .xor .i64 (codeOf (k : Int)) n = xorI (codeOf (k : Int)) n := xor_i64 _ _ hx.1 (by omega) h0 (by omega)
      unfold nearStepS at hS
      have hp : nearS n k = ((nearS n k).1, (nearS n k).2) := rfl
      generalize (nearS n k).1 = L at *
      generalize (nearS n k).2 = m at *
      clear hs1
      have HW := Lib.hid hW
      have HX := Lib.hid hxx
      clear hW hxx
      generalize dI (k : Int) n = d at *
      generalize xorI (codeOf (k : Int)) n = X at *
      generalize hC : codeOf (k : Int) = x at *
      have HC := Lib.hid hC
      clear hC
      by_cases hl : d < m
      · rw [if_pos hl] at hS
        go_wp2_with (first
          | (go_at_call 50; refine (l3Of_calls _ _ (by omega) (by omega)).mono ?_; rintro e w1 ⟨he, b1⟩; rw [HC.out] at he; subst he)
          | (go_at_call 71; rw [HX.out]; refine (l1Weight_calls _ _).mono ?_; rintro e w' ⟨he, rfl⟩; rw [HW.out] at he; subst he))
        have hsw : w.heap.size ≤ w1.heap.size := Nat.le_trans hb.out.size b1.size
        have ho2 := Lib.hid (ownS_empty w1 w.heap.size hsw)
        have hb2 := Lib.hid ((hb.out.trans (b1.mono hb.out.size)).alloc hsw (.cells #[] 3))
        have hN : w.heap.size ≤ (w1.alloc (.cells #[] 3)).heap.size := by simp; omega
        generalize w1.alloc (.cells #[] 3) = W at *
        generalize w1.heap.size = G at *
        clear ho hb b1
        go_loop [9] (fun kv => kv = .int .i64 0) (fun _ => 0)
        case atStart => rfl
        case round =>
          obtain rfl := hrel
          go_wp2
          go_region_law (first | ((refine step_app rfl (.tmp 44) (.tmp 47) (by rfl) _ W.heap.size _ [] [] ⟨G, 0, none⟩ 0 0 (by rfl) (by rfl) (by first | rfl | (simp; done) | (simp; omega)) (by first | exact ownS_emptyH W _ _ rfl (Nat.le_refl _) | exact (ownS_emptyH W _ _ rfl (Nat.le_refl _)).alloc _ | exact ownS_emptyH (W.alloc _) _ _ (by simp) (by omega)) (fun j hj => absurd hj (by simp)) (by first | (simp; done) | (simp; omega)) (by first | exact hz1 | (simp; done) | (simp; omega) | (have := hz1; simp; omega)) ?_); intro v1 w2 o1 b1 gr1 hz1) | ((refine step_app rfl (.tmp 48) (.tmp 50) (by rfl) _ W.heap.size _ _ [x] _ 1 _ (by rfl) (by rfl) rfl (by first | exact o1 | exact o1.alloc _) (by first | exact one_cell (cell_new _ #[_] _ 0 _ rfl) | exact one_cell ((gr1.cell_far _ (by simp) (show some (W.heap.size + 1) ≠ some W.heap.size by simp)).trans (cellX2 W _ _ _)) | exact one_cell ((gr1.cell_far _ (by simp; omega) (show some W.heap.size ≠ some (W.heap.size + 1) by simp)).trans (cellX1 W _ _ _))) (by first | (simp; done) | (simp; omega)) (by first | exact hz1 | (simp; done) | (simp; omega) | (have := hz1; simp; omega)) ?_); intro v2 w3 o2 b2 gr2 hz2) | ((refine step_app rfl (.tmp 51) (.tmp 54) (by rfl) _ W.heap.size _ _ [] ⟨G, 0, none⟩ 0 0 (by rfl) (by rfl) (by first | rfl | (simp; done) | (simp; omega)) o2 (fun j hj => absurd hj (by simp)) (by first | (simp; done) | (simp; omega)) (by first | exact hz2 | (simp; done) | (simp; omega) | (have := hz1; simp; omega)) ?_); intro v3 w4 o3 b3 gr3 hz3))
          all_goals
            go_wp2
            obtain ⟨o3, g3, c3, rfl⟩ := o3
            have b4 : Below W.heap.size W w4 := by
              repeat (first | exact Below.refl _ _ | refine Below.trans ?_ b3 | refine Below.trans ?_ b2 | refine Below.trans ?_ b1 | refine Below.drew ?_ | refine Below.alloc ?_ (by first | exact hz1 | (simp; done) | (simp; omega) | (have := hz1; simp; omega)) _)
            go_roundw
            case rel => exact ⟨k + 1, by omega, by go_num, by rw [hS], ⟨g3, c3, by rw [hS]; rfl⟩, Lib.hid (by rw [hS]; exact o3.weak hN), Lib.hid (hb2.out.trans (b4.mono hN))⟩
            case measure => simp [intOf]; omega
      · by_cases he : d = m
        · rw [if_neg hl, if_pos he] at hS
          subst he
          go_wp2_with (first
            | (go_at_call 50; refine (l3Of_calls _ _ (by omega) (by omega)).mono ?_; rintro e w1 ⟨he, b1⟩; rw [HC.out] at he; subst he)
            | (go_at_call 71; rw [HX.out]; refine (l1Weight_calls _ _).mono ?_; rintro e w' ⟨he, rfl⟩; rw [HW.out] at he; subst he))
          have hsw : w.heap.size ≤ w1.heap.size := Nat.le_trans hb.out.size b1.size
          have ho2 := Lib.hid (ho.out.below b1)
          have hb2 := Lib.hid (hb.out.trans (b1.mono hb.out.size))
          have hN := hsw
          clear ho hb b1
          go_loopw [9] (fun kv wr2 => ∃ j : Nat, j ≤ L.length ∧ kv = .int .i64 j ∧ Hid (insPos x L j = insPos x L L.length) ∧ ∃ q, wr2 = w1.drewN q) (fun kv _ => (intOf kv).toNat)
          case atStart => exact ⟨L.length, Nat.le_refl _, rfl, Lib.hid rfl, 0, rfl⟩
          case round =>
            obtain ⟨j, hj, rfl, hP, q, rfl⟩ := hrel
            have hlc : L.length ≤ c ∧ c ≤ maxLen := by
              rcases ho2.out.form with ⟨h, _⟩ | ⟨g', c', h, _, _, h3, h4⟩
              · cases h
              · simp only [Value.slice.injEq] at h; obtain ⟨_, _, rfl⟩ := h; exact ⟨h3, h4⟩
            have hgl : g < w1.heap.size := by
              rcases ho2.out.form with ⟨h, _⟩ | ⟨g', c', h, _, h2, _⟩
              · cases h
              · simp only [Value.slice.injEq, Option.some.injEq, Addr.mk.injEq] at h; obtain ⟨⟨rfl, _⟩, _⟩ := h; exact h2
            rcases j with _ | j
            · have HI := Lib.hid (insL_at x L 0 hP.out.symm)
              go_wp2
              have ho4 : Own (w1.drewN q) w.heap.size (.slice (some ⟨g, 0, none⟩) L.length c) L := ho2.out.drewN q
              have hb4 := below_drewN hb2.out q
              have hN4 : w.heap.size ≤ (w1.drewN q).heap.size := hN
              have hgl4 : g < (w1.drewN q).heap.size := hgl
              generalize w1.drewN q = W at *
              have HC1 := Lib.hid (take_cells (J := 0) ho4 hgl4)
              have HC2 := Lib.hid (take_cells (J := L.length) ho4 hgl4)
              rw [List.take_of_length_le (Nat.le_refl _)] at HC2
              have hq2 : (L.length : Int) ≤ (c : Int) := by omega
              have HO4 := Lib.hid ho4
              have HB4 := Lib.hid hb4
              clear ho2 hb2 hN hgl hP HX HW ho4 hb4
              go_region_law (first | ((refine step_app rfl (.tmp 44) (.tmp 47) (by rfl) _ W.heap.size _ [] (L.take 0) ⟨g, 0, none⟩ 0 c (by rfl) (by rfl) (by first | rfl | (simp; done) | (simp; omega)) (by first | exact ownS_emptyH W _ _ rfl (Nat.le_refl _) | exact (ownS_emptyH W _ _ rfl (Nat.le_refl _)).alloc _ | exact ownS_emptyH (W.alloc _) _ _ (by simp) (by omega)) (fun i hi => HC1.out _ (by repeat (first | exact Below.refl _ _ | refine Below.trans ?_ b3 | refine Below.trans ?_ b2 | refine Below.trans ?_ b1 | refine Below.drew ?_ | refine Below.alloc ?_ (by first | exact hz1 | (simp; done) | (simp; omega) | (have := hz1; simp; omega)) _)) i hi) (by first | (simp; done) | (simp; omega)) (by first | exact hz1 | (simp; done) | (simp; omega) | (have := hz1; simp; omega)) ?_); intro v1 w2 o1 b1 gr1 hz1) | ((refine step_app rfl (.tmp 48) (.tmp 50) (by rfl) _ W.heap.size _ _ [x] _ 1 _ (by rfl) (by rfl) rfl (by first | exact o1 | exact o1.alloc _) (by first | exact one_cell (cell_new _ #[_] _ 0 _ rfl) | exact one_cell ((gr1.cell_far _ (by simp) (show some (W.heap.size + 1) ≠ some W.heap.size by simp)).trans (cellX2 W _ _ _)) | exact one_cell ((gr1.cell_far _ (by simp; omega) (show some W.heap.size ≠ some (W.heap.size + 1) by simp)).trans (cellX1 W _ _ _))) (by first | (simp; done) | (simp; omega)) (by first | exact hz1 | (simp; done) | (simp; omega) | (have := hz1; simp; omega)) ?_); intro v2 w3 o2 b2 gr2 hz2) | ((refine step_app rfl (.tmp 51) (.tmp 54) (by rfl) _ W.heap.size _ _ (L.drop 0) ⟨g, 0, none⟩ L.length c (by rfl) (by rfl) (by first | rfl | (simp; done) | (simp; omega)) o2 (fun i hi => HC2.out _ (by repeat (first | exact Below.refl _ _ | refine Below.trans ?_ b3 | refine Below.trans ?_ b2 | refine Below.trans ?_ b1 | refine Below.drew ?_ | refine Below.alloc ?_ (by first | exact hz2 | (simp; done) | (simp; omega) | (have := hz1; simp; omega)) _)) i hi) (by first | (simp; done) | (simp; omega)) (by first | exact hz1 | (simp; done) | (simp; omega) | (have := hz1; simp; omega)) ?_); intro v3 w4 o3 b3 gr3 hz3))
              all_goals
                go_wp2
                obtain ⟨o3, g3, c3, rfl⟩ := o3
                have b4 : Below W.heap.size W w4 := by
                  repeat (first | exact Below.refl _ _ | refine Below.trans ?_ b3 | refine Below.trans ?_ b2 | refine Below.trans ?_ b1 | refine Below.drew ?_ | refine Below.alloc ?_ (by first | exact hz1 | (simp; done) | (simp; omega) | (have := hz1; simp; omega)) _)
                go_roundw
                case rel => exact ⟨k + 1, by omega, by go_num, by rw [hS], ⟨g3, c3, by rw [hS, ← HI.out]⟩, Lib.hid (by rw [hS, ← HI.out]; exact o3.weak hN4), Lib.hid (HB4.out.trans (b4.mono hN4))⟩
                case measure => simp [intOf]; omega
            · by_cases hx2 : x < L.getD j 0
              · have hc0 := ho2.out.cell (j := j) (by omega)
                have HQ := Lib.hid (((insPos_eq x L j).1 hx2).symm.trans hP.out)
                generalize L.getD j 0 = y at *
                go_wp2
                go_roundw
                case rel => exact ⟨j, by omega, by go_num, HQ, _, rfl⟩
                case measure => simp [intOf]
              · have hc0 := ho2.out.cell (j := j) (by omega)
                have hJ := hP.out.symm.trans ((insPos_eq x L j).2 hx2)
                generalize L.getD j 0 = y at *
                go_wp2
                obtain ⟨J, hJe⟩ : ∃ J, J = j + 1 := ⟨_, rfl⟩
                have hJc : ((j : Int) + 1) = (J : Int) := by omega
                rw [hJc]
                rw [← hJe] at hJ hj
                have HI := Lib.hid (insL_at x L J hJ)
                have ho4 : Own (w1.drewN q) w.heap.size (.slice (some ⟨g, 0, none⟩) L.length c) L := ho2.out.drewN q
                have hb4 := below_drewN hb2.out q
                have hN4 : w.heap.size ≤ (w1.drewN q).heap.size := hN
                have hgl4 : g < (w1.drewN q).heap.size := hgl
                generalize w1.drewN q = W at *
                have HC1 := Lib.hid (take_cells (J := J) ho4 hgl4)
                obtain ⟨A, hA, hA2⟩ := drop_cells (J := J) ho4 hgl4 hlc.1
                have HC2 := Lib.hid hA2
                clear hA2
                have hq0 : (0 : Int) ≤ (J : Int) := by omega
                have hq1 : (J : Int) ≤ (L.length : Int) := by omega
                have hq2 : (L.length : Int) ≤ (c : Int) := by omega
                have hq3 : (J : Int) ≤ (c : Int) := by omega
                have hq4 : J ≤ L.length := by omega
                have HO4 := Lib.hid ho4
                have HB4 := Lib.hid hb4
                clear ho2 hb2 hN hgl hP hJ HX HW ho4 hb4 hJe hJc
                go_region_law (first | ((refine step_app rfl (.tmp 44) (.tmp 47) (by rfl) _ W.heap.size _ [] (L.take J) ⟨g, 0, none⟩ J c (by rfl) (by rfl) (by first | rfl | (simp; done) | (simp; omega)) (by first | exact ownS_emptyH W _ _ rfl (Nat.le_refl _) | exact (ownS_emptyH W _ _ rfl (Nat.le_refl _)).alloc _ | exact ownS_emptyH (W.alloc _) _ _ (by simp) (by omega)) (fun i hi => HC1.out _ (by repeat (first | exact Below.refl _ _ | refine Below.trans ?_ b3 | refine Below.trans ?_ b2 | refine Below.trans ?_ b1 | refine Below.drew ?_ | refine Below.alloc ?_ (by first | exact hz1 | (simp; done) | (simp; omega) | (have := hz1; simp; omega)) _)) i hi) (by first | (simp; done) | (simp; omega)) (by first | exact hz1 | (simp; done) | (simp; omega) | (have := hz1; simp; omega)) ?_); intro v1 w2 o1 b1 gr1 hz1) | ((refine step_app rfl (.tmp 48) (.tmp 50) (by rfl) _ W.heap.size _ _ [x] _ 1 _ (by rfl) (by rfl) rfl (by first | exact o1 | exact o1.alloc _) (by first | exact one_cell (cell_new _ #[_] _ 0 _ rfl) | exact one_cell ((gr1.cell_far _ (by simp) (show some (W.heap.size + 1) ≠ some W.heap.size by simp)).trans (cellX2 W _ _ _)) | exact one_cell ((gr1.cell_far _ (by simp; omega) (show some W.heap.size ≠ some (W.heap.size + 1) by simp)).trans (cellX1 W _ _ _))) (by first | (simp; done) | (simp; omega)) (by first | exact hz1 | (simp; done) | (simp; omega) | (have := hz1; simp; omega)) ?_); intro v2 w3 o2 b2 gr2 hz2) | ((refine step_app rfl (.tmp 51) (.tmp 54) (by rfl) _ W.heap.size _ _ (L.drop J) A (L.length - J) (c - J) (by rfl) (by rfl) (by first | rfl | (simp; done) | (simp; omega)) o2 (fun i hi => HC2.out _ (by repeat (first | exact Below.refl _ _ | refine Below.trans ?_ b3 | refine Below.trans ?_ b2 | refine Below.trans ?_ b1 | refine Below.drew ?_ | refine Below.alloc ?_ (by first | exact hz2 | (simp; done) | (simp; omega) | (have := hz1; simp; omega)) _)) i hi) (by first | (simp; done) | (simp; omega)) (by first | exact hz1 | (simp; done) | (simp; omega) | (have := hz1; simp; omega)) ?_); intro v3 w4 o3 b3 gr3 hz3))
                all_goals
                  go_wp2
                  obtain ⟨o3, g3, c3, rfl⟩ := o3
                  have b4 : Below W.heap.size W w4 := by
                    repeat (first | exact Below.refl _ _ | refine Below.trans ?_ b3 | refine Below.trans ?_ b2 | refine Below.trans ?_ b1 | refine Below.drew ?_ | refine Below.alloc ?_ (by first | exact hz1 | (simp; done) | (simp; omega) | (have := hz1; simp; omega)) _)
                  go_roundw
                  case rel => exact ⟨k + 1, by omega, by go_num, by rw [hS], ⟨g3, c3, by rw [hS, ← HI.out]⟩, Lib.hid (by rw [hS, ← HI.out]; exact o3.weak hN4), Lib.hid (HB4.out.trans (b4.mono hN4))⟩
                  case measure => simp [intOf]; omega
        · rw [if_neg hl, if_neg he, hp] at hS
          go_wp2_with (first
            | (go_at_call 50; refine (l3Of_calls _ _ (by omega) (by omega)).mono ?_; rintro e w1 ⟨he, b1⟩; rw [HC.out] at he; subst he)
            | (go_at_call 71; rw [HX.out]; refine (l1Weight_calls _ _).mono ?_; rintro e w' ⟨he, rfl⟩; rw [HW.out] at he; subst he))
          go_roundw
          case rel => exact ⟨k + 1, by omega, by go_num, by rw [hS], ⟨g, c, by rw [hS]⟩, Lib.hid (by rw [hS]; exact ho.out.below b1), Lib.hid (hb.out.trans (b1.mono hb.out.size))⟩
          case measure => simp [intOf]; omega
    · have hk4 : k = 4096 := by omega
      have hp := nearS_pair n k hk4
      have e1 : (nearS n k).1 = nearL n := by
        rw [hp]
        show nearK n k = nearL n
        rw [hk4]; rfl
      have e2 : (nearS n k).2 = farI n := by rw [hp]
      rw [e1] at ho
      rw [e1, e2]
      clear hp e1 e2
      go_wp2
      go_ret2
      exact ⟨_, rfl, ho.out, hb.out⟩
theorem sCodeFar_calls (n : Int) (w : World) :
    Calls Tryz.prog 100 #[.int .i64 n] w fun e w' => e = .returned (.int .i64 (cFar n)) ∧ Below w.heap.size w w' := by
  rcases hb : wordB n with _ | _
  · have hn := (wordB_no n).1 hb
    rw [show cFar n = -1 by simp [cFar, hb]]
    clear hb
    go_enter Tryz.func100, Tryz.ntmps100
    go_wp2_with (go_at_call 42; refine (sWordValid_no _ _ hn).mono ?_; rintro e w' ⟨rfl, rfl⟩)
    go_ret
    exact ⟨rfl, Below.refl _ _⟩
  · have hn := (wordB_iff n).1 hb
    rw [show cFar n = farI n by simp [cFar, hb]]
    clear hb
    go_enter Tryz.func100, Tryz.ntmps100
    go_wp2_with (first
      | (go_at_call 42; refine (sWordValid_ok _ _ hn.1 hn.2).mono ?_; rintro e w' ⟨rfl, rfl⟩)
      | (go_at_call 46; refine (l3Near_calls _ hn.1 hn.2 _).mono ?_; rintro e w1 ⟨v, rfl, o1, b1⟩))
    go_ret
    exact ⟨rfl, b1⟩
theorem sCodeMend_calls (n : Int) (w : World) :
    Calls Tryz.prog 23 #[.int .i64 n] w fun e w' => e = .returned (.tuple #[.int .i64 (cMend n).1, .bool (cMend n).2]) ∧ Below w.heap.size w w' := by
  rcases hb : wordB n with _ | _
  · have hn := (wordB_no n).1 hb
    rw [show cMend n = (0, false) by simp [cMend, hb]]
    clear hb
    go_enter Tryz.func23, Tryz.ntmps23
    go_wp2_with (go_at_call 42; refine (sWordValid_no _ _ hn).mono ?_; rintro e w' ⟨rfl, rfl⟩)
    go_ret2
    exact ⟨rfl, Below.refl _ _⟩
  · have hn := (wordB_iff n).1 hb
    have HN := Lib.hid (nearL_len n hn.1 hn.2)
    by_cases hd : farI n ≤ 3
    · obtain ⟨L, hL⟩ : ∃ L, nearL n = L := ⟨_, rfl⟩
      have hM : cMend n = (L.getD 0 0, true) := by rw [← hL]; simp [cMend, hb, hd]
      obtain ⟨y, hy⟩ : ∃ y, L.getD 0 0 = y := ⟨_, rfl⟩
      rw [hM, hy]
      have HL := Lib.hid hL
      have HY := Lib.hid hy
      clear hb hM hL hy
      go_enter Tryz.func23, Tryz.ntmps23
      go_wp2_with (go_at_call 42; refine (sWordValid_ok _ _ hn.1 hn.2).mono ?_; rintro e w' ⟨rfl, rfl⟩)
      refine (l3Near_calls _ hn.1 hn.2 _).mono ?_
      rintro e w1 ⟨v, rfl, o1, b1⟩
      rw [HL.out] at o1
      have hl1 : L.length = 1 := by rw [← HL.out]; rcases HN.out with h | h <;> omega
      obtain ⟨g, c, rfl⟩ : ∃ g c, v = .slice (some ⟨g, 0, none⟩) L.length c := by
        rcases o1.form with ⟨_, h1⟩ | ⟨g, c, h1, _⟩
        · subst h1; simp at hl1
        · exact ⟨g, c, h1⟩
      have hc0 := o1.cell (j := 0) (by omega)
      have hf0 := o1.free 0
      rw [hl1]
      rw [HY.out] at hc0
      clear HL HN HY hl1 o1
      generalize farI n = f at *
      go_wp2
      go_ret2
      exact ⟨rfl, b1⟩
    · rw [show cMend n = (0, false) by simp [cMend, hb, hd]]
      clear hb
      go_enter Tryz.func23, Tryz.ntmps23
      go_wp2_with (first
        | (go_at_call 42; refine (sWordValid_ok _ _ hn.1 hn.2).mono ?_; rintro e w' ⟨rfl, rfl⟩)
        | (go_at_call 46; refine (l3Near_calls _ hn.1 hn.2 _).mono ?_; rintro e w1 ⟨v, rfl, o1, b1⟩))
      go_ret2
      exact ⟨rfl, b1⟩
end Go.Proofs.YtcfhfllcdliaoaaGreatDoor
