/- Permutations of the program: a moved word. -/
import Derived.Test.YtepaaijlkimmeaaDoorC105
import Derived.Test.YtepaaijlkimmeaaDoorC10
import Derived.Test.YtepaaijlkimmeaaDoorP2
import Derived.Shelf.RegionOpen
namespace Go.Proofs.YtepaaijlkimmeaaDoor
open Go.RowKit Go.Shelf
attribute [local go_sem] Oper.semAt_some
set_option linter.unusedVariables false
attribute [local irreducible] cN syn

theorem lin_snoc : ∀ (A : List Nat) (a v : Nat), lin (A ++ [a]) v = lin A v ^^^ if v.testBit A.length then a else 0
  | [], a, v => by
    simp only [List.nil_append, lin, List.length_nil, Nat.testBit_zero]
    have : v % 2 = 0 ∨ v % 2 = 1 := by omega
    rcases this with h | h <;> simp [h]
  | b :: A, a, v => by
    simp only [List.cons_append, lin, List.length_cons]
    rw [lin_snoc A a (v / 2), Nat.xor_assoc]
    simp only [Nat.testBit_succ]
def fV (pre : List (Fin 24)) : List Nat := pre.map fun x => x.val
/-- The word of the moved places. -/
def mvF (P : List Nat) (pre : List Nat) : Nat := pre.foldl (fun m x => m ^^^ 2 ^ P.getD x 0) 0
theorem mvF_snoc (P pre : List Nat) (x : Nat) : mvF P (pre ++ [x]) = mvF P pre ^^^ 2 ^ P.getD x 0 := by simp [mvF]
theorem mvF_plN {P : List Nat} (R : Nat) : ∀ k, k ≤ P.length → mvF P (plN R k) = lin ((pws P).take k) R
  | 0, _ => rfl
  | k + 1, hk => by
    have hl : ((pws P).take k).length = k := by rw [List.length_take, pws_len]; omega
    have hk' : k < (pws P).length := by rw [pws_len]; omega
    have e : (pws P)[k] = 2 ^ P.getD k 0 := by rw [← pws_get k (by omega)]; simp [hk']
    rw [plN_succ, List.take_succ_eq_append_getElem hk', lin_snoc, hl, ← mvF_plN R k (by omega), e]
    by_cases hb : R.testBit k = true
    · rw [if_pos hb, if_pos hb, mvF_snoc]
    · rw [if_neg hb, if_neg hb, List.append_nil, Nat.xor_zero]
theorem mvF_pl {P : List Nat} (h : P.length = 24) (R : Nat) : mvF P (pl R) = movN P R := by
  show mvF P (plN R 24) = lin (pws P) R
  rw [mvF_plN R 24 (by omega), List.take_of_length_le (by rw [pws_len]; omega)]
theorem mvF_lt {P : List Nat} (h : PermN P) (pre : List (Fin 24)) : mvF P (pre.map fun x => x.val) < 16777216 := by
  induction pre using snocInd with
  | nil => show (0 : Nat) < 16777216; decide
  | append_singleton pre x ih =>
    rw [List.map_append, List.map_cons, List.map_nil, mvF_snoc]
    refine Nat.xor_lt_two_pow (n := 24) ih ?_
    exact Nat.pow_lt_pow_right (by decide) (h.get _ x.isLt)
theorem mvF_xor {P : List Nat} (h : PermN P) (pre : List (Fin 24)) (x : Fin 24) : xorI ((mvF P (fV pre) : Nat) : Int) (powI ((P.getD x.val 0 : Nat) : Int)) = ((mvF P (fV (pre ++ [x])) : Nat) : Int) := by
  have e : fV (pre ++ [x]) = fV pre ++ [x.val] := by simp [fV]
  rw [e, mvF_snoc]
  unfold xorI powI
  have e2 : ((2 : Int) ^ ((P.getD x.val 0 : Nat) : Int).toNat).toNat = 2 ^ P.getD x.val 0 := by
    rw [Int.toNat_natCast, Int.toNat_pow_of_nonneg (by omega)]
    rfl
  rw [e2, Int.toNat_natCast]
theorem move_step {w W : World} {VX : Array Value} {m m' Z : Int} (hB : Below w.heap.size w W) (hc : W.cell? ⟨w.heap.size + 1, 0, none⟩ = some (.int .u32 m)) (hf : W.frozen? ⟨w.heap.size + 1, 0, none⟩ = false)
    (hp : W.heap[w.heap.size]? = some (.cells VX 46 (0, 0))) (he : Z = m') :
    let W' := (W.setCell ⟨w.heap.size + 1, 0, none⟩ (.int .u32 Z)).drew
    KeepsOthers W W' ∧ Below w.heap.size W W' ∧ ((W'.cell? ⟨w.heap.size + 1, 0, none⟩ = some (.int .u32 m') ∧ W'.frozen? ⟨w.heap.size + 1, 0, none⟩ = false) ∧ W'.heap[w.heap.size]? = some (Obj.cells VX 46 (0, 0))) ∧ Below w.heap.size w W' := by
  intro W'
  have b : Below w.heap.size W W' := ((Below.refl _ W).setCell (p := ⟨w.heap.size + 1, 0, none⟩) (by simp) _).drew
  refine ⟨(KeepsOthers.setCell _ _ _).trans (KeepsOthers.drew _), b, ⟨⟨?_, ?_⟩, ?_⟩, hB.trans b⟩
  · show World.cell? (World.drew _) _ = _
    rw [World.cell?_drew, World.cell?_setCell_same _ _ _ hc, he]
  · show World.frozen? (World.drew _) _ = _
    rw [frozen_drew_own, World.frozen?_setCell]; exact hf
  · exact (Below.heap_setCell W _ _ _ (by simp)).trans hp
set_option maxRecDepth 100000 in
set_option maxHeartbeats 2000000 in
theorem move_in (xs : List Int) (hp : permB xs = true) (R : Nat) (hR : R < 16777216) (w : World) (hT : TabB w) :
    CallsIn Fence.wide 6 Tryd.prog 35 #[.agg (VL xs), .int .u32 R] w fun e w' => e = .returned (.int .u32 ((movN (natP xs) R : Nat) : Int)) ∧ Below w.heap.size w w' := by
  refine callsIn_of_wp_marks Tryd.func35 rfl trivial ?_ rfl
  simp only [Tryd.ntmps35, List.size_toArray, List.length_cons, List.length_nil, Nat.reduceAdd, Nat.reduceSub, Array.replicate_succ, Array.replicate_zero, List.push_toArray, List.append_toArray, List.nil_append, List.cons_append]
  obtain ⟨hP, _⟩ := permB_perm hp
  have HAT := Lib.hid (fun k hk => permB_at hp k hk)
  have HCX := Lib.hid (fun (W : World) g t (h : W.heap[g]? = some (Obj.cells (VL xs) t (0, 0))) (p : Nat) (hk : p < 24) => VL_at (j := p) xs (by rw [permB_len hp]; exact hk) h)
  have HLT := Lib.hid (fun pre => mvF_lt hP pre)
  have HXR := Lib.hid (fun pre x => mvF_xor hP pre x)
  have HEND := Lib.hid (mvF_pl hP.1 R)
  obtain ⟨VX, hVX⟩ : ∃ V, VL xs = V := ⟨_, rfl⟩
  rw [hVX] at HCX ⊢
  clear hVX hP hp
  gi_wp2_with (refine ⟨trivial, ?_⟩; gi_at_call 60; refine (places_in _ _ _).mono ?_; rintro e w' ⟨rfl, rfl⟩)
  have h4 := Boxed.new (w.alloc (.cells VX 46)) 57 (.int .u32 0)
  have hb := Boxed.new ((w.alloc (.cells VX 46)).alloc (.cells #[.int .u32 0] 57)) 57 (.int .u32 R)
  simp only [World.size_alloc] at h4 hb
  have hpb := (three_heap w (.cells VX 46) (.cells #[.int .u32 0] 57) (.cells #[.int .u32 R] 57)).1
  have hB0 : Below w.heap.size w (((w.alloc (.cells VX 46)).alloc (.cells #[.int .u32 0] 57)).alloc (.cells #[.int .u32 R] 57)) := (((Below.refl _ w).alloc (Nat.le_refl _) _).alloc (by simp) _).alloc (by simp; omega) _
  obtain ⟨ys, hxs⟩ := plF_ex R
  have HV := Lib.hid hxs
  have hxl : ys.length ≤ 24 := by have := congrArg List.length hxs; have := pl_len R; simp at *; omega
  refine wpIn_rangeFunc_ownF rfl (by omega) (gf := 68) (lb := #[.pointer (some ⟨w.heap.size + 1 + 1, 0, none⟩)]) rfl trivial (enters_of Tryd.func68 (by kernel_rfl) rfl)
    (places_stops 5 (by omega) (w.heap.size + 1 + 1) w.heap.size R hR ys hxs _ (by simp) (by simp; omega) hT.lt hb.cell (hT.below hB0 hT.lt)) belowK_t (belowK_b (by simp; omega)) (Below.refl _ _) (fun _ => rfl)
    (fun pre W => ((W.cell? ⟨w.heap.size + 1, 0, none⟩ = some (.int .u32 ((mvF (natP xs) (fV pre) : Nat) : Int)) ∧ W.frozen? ⟨w.heap.size + 1, 0, none⟩ = false) ∧ W.heap[w.heap.size]? = some (Obj.cells VX 46 (0, 0))) ∧ Below w.heap.size w W)
    (fun _ _ _ => False)
    (OwnFrom.and (Go.Own.from (fun s A B row hs hg hr => ⟨⟨cell_kept hs.1.1 hg hr, (frozen_kept hs.1.1 hg hr).trans hs.1.2⟩, (grownBy_keeps_cells hg hr hs.2 rfl).trans hs.2⟩) _) (ownFrom_below (Nat.le_refl _) (by simp; omega)))
    (fun _ _ _ _ _ hs _ _ => hs)
    ⟨⟨⟨(h4.alloc _).cell, (h4.alloc _).frozen⟩, hpb⟩, hB0⟩
    (fun x => { tmps := #[.agg VX, .int .u32 R, .pointer (some ⟨w.heap.size, 0, none⟩), undef, .int .u32 0, .pointer (some ⟨w.heap.size + 1, 0, none⟩), .int .i64 (x.val : Nat), .int .u32 R, .func (.func 68) #[] #[.pointer (some ⟨w.heap.size + 1 + 1, 0, none⟩)], .int .i64 (x.val : Nat), undef, undef, undef, undef, undef, undef, undef], defers := [] }) ?assign ?body ?done ?stop
  case assign =>
    intro l x W K hK
    gi_wp2
    exact hK
  case body =>
    rintro l pre x W ⟨⟨⟨hc, hf⟩, hpp⟩, hB⟩ hlt
    have hd : 1 ≤ 6 - 1 - 1 := by omega
    have hmx : Tryd.prog.follows .mixedOrders = true := by kernel_rfl
    have hx24 := x.isLt
    obtain ⟨e1, hq⟩ := HAT.out x.val hx24
    have hcx := HCX.out W _ _ hpp x.val hx24
    rw [e1] at hcx
    have HX := Lib.hid (HXR.out pre x)
    have hlt2 := HLT.out pre
    have hm0 : (0 : Int) ≤ ((mvF (natP xs) (fV pre) : Nat) : Int) := by omega
    have hm1 : ((mvF (natP xs) (fV pre) : Nat) : Int) ≤ 16777215 := by
      have : mvF (natP xs) (fV pre) < 16777216 := hlt2
      omega
    have hx0 : (0 : Int) ≤ (x.val : Int) := by omega
    have hx1 : (x.val : Int) < 24 := by omega
    clear e1 hlt2
    generalize (natP xs).getD x.val 0 = q at *
    have hq0 : (0 : Int) ≤ (q : Int) := by omega
    have hq1 : (q : Int) ≤ 23 := by omega
    have hpw := powI_le (q : Int) hq0 hq1
    have hpw0 := powI_pos (q : Int)
    have HPP := Lib.hid hpp
    clear hpp
    generalize ((mvF (natP xs) (fV pre) : Nat) : Int) = m at *
    gi_wp2
    gi_region_with_o (first
      | (refine ⟨trivial, ?_⟩; gi_at_call 58; refine (CallsIn.inRound l (callsIn_wide.2 (wordAt_calls (q : Int) _ hq0 hq1))).mono ?_; rintro e w' ⟨rfl, rfl⟩)
      | (refine ⟨trivial, ?_⟩; gi_at_call 59; refine (CallsIn.inRound l (callsIn_wide.2 (word_add m (powI q) _ hm0 hm1 (by omega) (by omega)))).mono ?_; rintro e w' ⟨rfl, rfl⟩))
    all_goals gi_wp2
    all_goals exact move_step hB hc hf HPP.out HX.out
  case done =>
    rintro D zs W hD rfl ⟨⟨⟨hc, hf⟩, hpp⟩, hB⟩ hK
    have he : mvF (natP xs) (fV zs) = movN (natP xs) R := by
      rw [← HEND.out, ← HV.out]; rfl
    rw [he] at hc
    clear hpp
    gi_wp2
    refine ⟨by simp, .inl ⟨_, _, rfl, run_takeDeferred hK, ?_⟩⟩
    refine ⟨_, results_tmp rfl _ _ _, rfl, ?_⟩
    exact hB.trans (belowK_b (w := w) (Nat.le_refl _) W D _ _ (by simp at hD; omega) hK rfl rfl)
  case stop =>
    rintro D c pre W _ _ h _
    exact h.elim
theorem move_calls (xs : List Int) (hp : permB xs = true) (n : Int) (hn : IsW n) (w : World) (hT : TabB w) :
    Calls Tryd.prog 35 #[.agg (VL xs), .int .u32 n] w fun e w' => e = .returned (.int .u32 ((movN (natP xs) n.toNat : Nat) : Int)) ∧ Below w.heap.size w w' := by
  obtain ⟨h0, h1⟩ := hn
  obtain ⟨R, rfl⟩ := Int.eq_ofNat_of_zero_le h0
  exact callsIn_wide.1 (move_in xs hp R (by omega) w hT)
set_option maxHeartbeats 1000000 in
theorem iPermWord_calls (A : Option Addr) (c : Nat) (xs : List Int) (n : Int) (w : World) (ha : Rds w w.heap.size .i64 A xs) (hx : xs.length ≤ maxLen) (hT : TabB w) :
    Calls Tryd.prog 13 #[.slice A xs.length c, .int .i64 n] w fun e w' => e = .returned (.tuple #[.int .i64 (plWord xs n).1, .bool (plWord xs n).2]) ∧ Below w.heap.size w w' := by
  have HF := Lib.hid (permFrom_calls A c xs w ha hx)
  have HI := Lib.hid (pmInfoL (pL xs) (pL_len xs))
  have HSZ := Lib.hid (show (VL (pL xs)).size = 24 by rw [VL_size, pL_len])
  have HALL := Lib.hid (VL_all (pL xs))
  rcases hp : permB xs with _ | _
  · rw [show plWord xs n = (0, false) by simp [plWord, hp]]
    rw [hp] at HF
    clear ha hx hp
    generalize xs.length = len at *
    generalize VL (pL xs) = V at *
    go_enter Tryd.func13, Tryd.ntmps13
    go_wp2_with fail
    refine HF.out.mono ?_
    rintro e w1 ⟨rfl, b1⟩
    have HN := Lib.hid (Blk.new w1 46 (VL z24))
    have HB := Lib.hid (b1.alloc b1.size (.cells (VL z24) 46))
    have hw1 := b1.size
    clear b1
    go_wp2_with (refine wpList_store_row rfl 46 _ _ rfl w1.heap.size V rfl rfl 46 (VL z24) HN.out HI.out (by rw [HSZ.out]; rfl) HALL.out ?_)
    go_ret2
    exact ⟨rfl, bel_row HB.out hw1⟩
  rcases isW_or n with hn | hn
  · have hwd : wdB n = true := by simpa [wdB, IsW] using hn
    rw [show plWord xs n = (((movN (natP xs) n.toNat : Nat) : Int), true) by simp [plWord, hp, hwd]]
    have HTU := Lib.hid (fun W h => move_calls xs hp n hn W h)
    have hlt := movN_lt (permB_perm hp).1 n.toNat
    rw [hp] at HF
    rw [pL_yes hp] at HF HI HSZ HALL
    have hT0 := hT.lt
    clear ha hx hp hwd
    generalize xs.length = len at *
    generalize movN (natP xs) n.toNat = q at *
    have hwr : IntKind.i64.wrap (q : Int) = (q : Int) := wrap_i64_in _ (by omega) (by omega)
    generalize VL xs = V at *
    go_enter Tryd.func13, Tryd.ntmps13
    go_wp2_with fail
    refine HF.out.mono ?_
    rintro e w1 ⟨rfl, b1⟩
    have HN := Lib.hid (Blk.new w1 46 (VL z24))
    have HB := Lib.hid (bel_row (T := V) (b1.alloc b1.size (.cells (VL z24) 46)) b1.size)
    have HN2 := Lib.hid (show ((w1.alloc (.cells (VL z24) 46)).setRow w1.heap.size V).heap[w1.heap.size]? = some (.cells V 46 (0, 0)) from setRow_heap _ _ _ _ _ _ HN.out)
    have HT2 := Lib.hid (hT.below HB.out hT0)
    clear b1
    go_wp2_with (first
      | (refine wpList_store_row rfl 46 _ _ rfl w1.heap.size V rfl rfl 46 (VL z24) HN.out HI.out (by rw [HSZ.out]; rfl) HALL.out ?_)
      | (go_at_call 34; refine (wordFrom_ok n _ hn.1 hn.2).mono ?_; rintro e w' ⟨rfl, rfl⟩)
      | (refine wpList_load_row rfl 46 _ rfl w1.heap.size rfl 46 V (0, 0) _ HN2.out Tryd.underlying46 rfl HI.out ?_))
    refine (HTU.out _ HT2.out).mono ?_
    rintro e w2 ⟨rfl, b2⟩
    have HB2 := Lib.hid (HB.out.trans (b2.mono HB.out.size))
    clear b2
    go_wp2_with fail
    go_ret2
    exact ⟨rfl, HB2.out⟩
  · have hwd : wdB n = false := by
      simp only [wdB, decide_eq_false_iff_not]
      unfold NoW at hn
      omega
    rw [show plWord xs n = (0, false) by simp [plWord, hp, hwd]]
    rw [hp] at HF
    clear ha hx hp hwd
    generalize xs.length = len at *
    generalize VL (pL xs) = V at *
    go_enter Tryd.func13, Tryd.ntmps13
    go_wp2_with fail
    refine HF.out.mono ?_
    rintro e w1 ⟨rfl, b1⟩
    have HN := Lib.hid (Blk.new w1 46 (VL z24))
    have HB := Lib.hid (b1.alloc b1.size (.cells (VL z24) 46))
    have hw1 := b1.size
    clear b1
    go_wp2_with (first
      | (refine wpList_store_row rfl 46 _ _ rfl w1.heap.size V rfl rfl 46 (VL z24) HN.out HI.out (by rw [HSZ.out]; rfl) HALL.out ?_)
      | (go_at_call 34; refine (wordFrom_no n _ hn).mono ?_; rintro e w' ⟨rfl, rfl⟩))
    go_ret2
    exact ⟨rfl, bel_row HB.out hw1⟩
end Go.Proofs.YtepaaijlkimmeaaDoor
