/- Vectors of the program made place by place: word.vector, flipped, minusPlaces. -/
import Derived.Test.YtmeejnkpaiinaabDoorC171
import Derived.Test.YtmeejnkpaiinaabDoorC10
import Derived.Test.YtmeejnkpaiinaabDoorM44
import Derived.Shelf.RegionOpen
namespace Go.Proofs.YtmeejnkpaiinaabDoor
open Go.RowKit Go.Shelf
attribute [local go_sem] Oper.semAt_some
set_option linter.unusedVariables false
set_option linter.unusedSimpArgs false
attribute [local irreducible] cN syn

theorem ownFrom_heapV {β : Type} {B g : Nat} (f : β → Obj) (hgB : g < B) : OwnFrom B (fun (s : β) W => W.heap[g]? = some (f s)) :=
  fun s A C row hs hg hr => (hg.block g (Array.getElem?_eq_some_iff.1 hs).1 fun e => by have := (hr g e.symm).1; omega).trans hs
theorem four_heapV (w : World) (o0 o1 o2 o3 : Obj) : ((((w.alloc o0).alloc o1).alloc o2).alloc o3).heap[w.heap.size]? = some o0 ∧ ((((w.alloc o0).alloc o1).alloc o2).alloc o3).heap[w.heap.size + 1]? = some o1 ∧ ((((w.alloc o0).alloc o1).alloc o2).alloc o3).heap[w.heap.size + 2]? = some o2 ∧ Below w.heap.size w ((((w.alloc o0).alloc o1).alloc o2).alloc o3) := by
  have h := three_heap w o0 o1 o2
  have hs : (((w.alloc o0).alloc o1).alloc o2).heap.size = w.heap.size + 1 + 1 + 1 := by simp
  refine ⟨(Below.heap_alloc _ _ _ (by omega)).trans h.1, (Below.heap_alloc _ _ _ (by omega)).trans h.2.1, (Below.heap_alloc _ _ _ (by omega)).trans h.2.2.1, h.2.2.2.alloc (by omega) _⟩
/-- A cell of a row is set: what is kept. -/
theorem set_step {w W : World} {g : Nat} {j : Nat} (hg : w.heap.size ≤ g) (x : Value) : KeepsOthers W (W.setCell ⟨g, j, none⟩ x) ∧ Below w.heap.size W (W.setCell ⟨g, j, none⟩ x) ∧ ∀ q, q ≠ g → (W.setCell ⟨g, j, none⟩ x).heap[q]? = W.heap[q]? :=
  ⟨KeepsOthers.setCell _ _ _, (Below.refl _ W).setCell (p := ⟨g, j, none⟩) hg _, fun q hq => Below.heap_setCell W _ _ q hq⟩
set_option maxRecDepth 100000 in
set_option maxHeartbeats 2000000 in
theorem flipped_in (xs : List Int) (R : Nat) (hR : R < 16777216) (hl : xs.length = 24) (hrg : ∀ p, -100000 ≤ xs.getD p 0 ∧ xs.getD p 0 ≤ 100000) (w : World) (hT : TabB w) :
    CallsIn Fence.wide 6 Tryd.prog 43 #[.agg (VL xs), .int .u32 R] w fun e w' => e = .returned (.agg (VL (vL (flipF R (atL xs))))) ∧ Below w.heap.size w w' := by
  obtain ⟨ys, hxs⟩ := plF_ex R
  rw [← flipP_all xs hl R ys hxs]
  have HLN := Lib.hid (fun pre => flipP_len xs hl pre)
  have HRG := Lib.hid (fun pre p => flipP_rng xs 100000 hrg pre p)
  have HSN := Lib.hid (fun pre x => flipP_snoc xs pre x)
  have HP0 := Lib.hid (show flipP xs [] = xs from rfl)
  obtain ⟨F, hF⟩ : ∃ F, flipP xs = F := ⟨_, rfl⟩
  rw [hF] at HLN HRG HSN HP0 ⊢
  clear hF hrg
  refine callsIn_of_wp_marks Tryd.func43 rfl trivial ?_ rfl
  simp only [Tryd.ntmps43, List.size_toArray, List.length_cons, List.length_nil, Nat.reduceAdd, Nat.reduceSub, Array.replicate_succ, Array.replicate_zero, List.push_toArray, List.append_toArray, List.nil_append, List.cons_append]
  have H3 := three_heap w (.cells (VL xs) 48) (.cells (VL z24) 48) (.cells #[.int .u32 R] 58)
  generalize hVX : VL xs = VX at *
  have HVX2 := Lib.hid (show VX = VL (F []) by rw [HP0.out]; exact hVX.symm)
  clear hVX
  gi_wp2_with (refine ⟨trivial, ?_⟩; gi_at_call 76; refine (places_in _ _ _).mono ?_; rintro e w' ⟨rfl, rfl⟩)
  have hb := Boxed.new ((w.alloc (.cells VX 48)).alloc (.cells (VL z24) 48)) 58 (.int .u32 R)
  simp only [World.size_alloc] at hb
  refine wpIn_rangeFunc_ownF rfl (by omega) (gf := 90) (lb := #[.pointer (some ⟨w.heap.size + 1 + 1, 0, none⟩)]) rfl trivial (enters_of Tryd.func90 (by kernel_rfl) rfl)
    (places_stops 5 (by omega) (w.heap.size + 1 + 1) w.heap.size R hR ys hxs _ (by simp) (by simp; omega) hT.lt hb.cell (hT.below H3.2.2.2 hT.lt)) belowK_t (belowK_b (by simp; omega)) (Below.refl _ _) (fun _ => rfl)
    (fun pre W => (W.heap[w.heap.size]? = some (.cells (VL (F pre)) 48 (0, 0)) ∧ W.heap[w.heap.size + 1]? = some (.cells (VL z24) 48 (0, 0))) ∧ Below w.heap.size w W)
    (fun _ _ _ => False)
    (((ownFrom_heapV (fun (pre : List (Fin 24)) => .cells (VL (F pre)) 48 (0, 0)) (by simp <;> omega)).and (ownFrom_heapV (fun _ => .cells (VL z24) 48 (0, 0)) (by simp <;> omega))).and (ownFrom_below (Nat.le_refl _) (by simp; omega)))
    (fun _ _ _ _ _ hs _ _ => hs)
    ⟨⟨by rw [← HVX2.out]; exact H3.1, H3.2.1⟩, H3.2.2.2⟩
    (fun x => { tmps := #[.agg VX, .int .u32 R, .pointer (some ⟨w.heap.size, 0, none⟩), undef, .pointer (some ⟨w.heap.size + 1, 0, none⟩), .int .i64 (x.val : Nat), .int .u32 R, .func (.func 90) #[] #[.pointer (some ⟨w.heap.size + 1 + 1, 0, none⟩)], .int .i64 (x.val : Nat), undef, undef, undef, undef, undef, undef, undef], defers := [] }) ?assign ?body ?done ?stop
  case assign =>
    intro l x W K hK
    gi_wp2
    exact hK
  case body =>
    rintro l pre x W ⟨⟨hp, h0⟩, hB⟩ hlt
    have hfp : W.frozen? ⟨w.heap.size, x.val, none⟩ = false := Lib.frozen_of_heap hp _
    have hcp := VL_at (j := x.val) (F pre) (by rw [HLN.out]; exact x.isLt) hp
    have hrg := HRG.out pre x.val
    have HSE := Lib.hid (HSN.out pre x)
    have hx0 : (0 : Int) ≤ ((x.val : Nat) : Int) := by omega
    have hx1 : ((x.val : Nat) : Int) < 24 := by have := x.isLt; omega
    have HSET := Lib.hid (fun u => VL_set (j := x.val) (F pre) u hp)
    generalize (F pre).getD x.val 0 = z at *
    have HSN2 := Lib.hid (HSET.out (-z))
    have H0 := Lib.hid h0
    have HBB := Lib.hid hB
    have hwn : wrap64 (-z) = -z := wrap64_of _ (by omega) (by omega)
    clear hp h0 hB
    gi_wp2
    have hs := set_step (w := w) (W := W) (g := w.heap.size) (j := x.val) (Nat.le_refl _) (.int .i64 (-z))
    exact ⟨hs.1, hs.2.1, ⟨by rw [HSE.out]; exact HSN2.out, (hs.2.2 _ (by omega)).trans H0.out⟩, HBB.out.trans hs.2.1⟩
  case done =>
    rintro D zs W hD rfl ⟨⟨hp, h0⟩, hB⟩ hK
    have HI := Lib.hid (vcInfoL (F zs) (HLN.out zs))
    have HA := Lib.hid (VL_all (F zs))
    have hsz : (VL z24).size = (VL (F zs)).size := by rw [VL_size, VL_size, HLN.out]; rfl
    have HS := Lib.hid hsz
    have hD' : D ≠ w.heap.size + 1 := by simp at hD; omega
    clear hsz
    have HP := Lib.hid hp
    have H0 := Lib.hid h0
    have HB := Lib.hid hB
    have HK := Lib.hid hK
    clear hp h0 hB hK
    generalize hV : VL (F zs) = V at *
    refine ‹∀ (a : Act) (w : World), _ → _› _ _ ?_
    refine wpIn_wide.2 ?_
    go_wp2_with (first
      | (refine wpList_load_row rfl 48 _ rfl w.heap.size rfl 48 V (0, 0) _ HP.out Tryd.underlying48 rfl HI.out ?_)
      | (refine wpList_store_row rfl 48 _ _ rfl (w.heap.size + 1) V rfl rfl 48 (VL z24) H0.out HI.out HS.out HA.out ?_))
    have hK2 : (W.setRow (w.heap.size + 1) V).heap[D]? = some (.deferred (some [])) := (setRow_other _ _ _ _ hD').trans HK.out
    refine ⟨by simp, .inl ⟨_, _, rfl, run_takeDeferred hK2, ?_⟩⟩
    have hlt0 : w.heap.size + 1 < (W.setRow (w.heap.size + 1) V).heap.size := (Array.getElem?_eq_some_iff.1 (setRow_heap _ _ _ V _ _ H0.out)).1
    have hb3 := ((grownBy_putObj' (W.setRow (w.heap.size + 1) V) D (.deferred none)).block (w.heap.size + 1) hlt0 (fun e => hD' (by cases e; rfl))).trans (setRow_heap _ _ _ V _ _ H0.out)
    refine ⟨_, results_c rfl rfl (hb3 : Blk _ _ _ _) Tryd.underlying48 rfl HI.out, by rw [hV], ?_⟩
    exact (bel_row HB.out (by omega)).trans (belowK_b (w := w) (Nat.le_refl _) _ D _ _ (by simp at hD; omega) hK2 rfl rfl)
  case stop =>
    rintro D c pre W _ _ h _
    exact h.elim
theorem flipped_calls (xs : List Int) (R : Nat) (hR : R < 16777216) (hl : xs.length = 24) (hrg : ∀ p, -100000 ≤ xs.getD p 0 ∧ xs.getD p 0 ≤ 100000) (w : World) (hT : TabB w) :
    Calls Tryd.prog 43 #[.agg (VL xs), .int .u32 R] w fun e w' => e = .returned (.agg (VL (vL (flipF R (atL xs))))) ∧ Below w.heap.size w w' :=
  callsIn_wide.1 (flipped_in xs R hR hl hrg w hT)
set_option maxRecDepth 100000 in
set_option maxHeartbeats 2000000 in
theorem wvector_in (R : Nat) (n : Int) (hR : R < 16777216) (w : World) (hT : TabB w) :
    CallsIn Fence.wide 6 Tryd.prog 56 #[.int .u32 R, .int .i64 n] w fun e w' => e = .returned (.agg (VL (vL fun p => if R.testBit p then n else 0))) ∧ Below w.heap.size w w' := by
  obtain ⟨ys, hxs⟩ := plF_ex R
  rw [← putP_all n R ys hxs]
  have HLN := Lib.hid (fun pre => putP_len n pre)
  have HSN := Lib.hid (fun pre x => putP_snoc n pre x)
  have HP0 := Lib.hid (show putP n [] = z24 from rfl)
  obtain ⟨F, hF⟩ : ∃ F, putP n = F := ⟨_, rfl⟩
  rw [hF] at HLN HSN HP0 ⊢
  clear hF
  refine callsIn_of_wp_marks Tryd.func56 rfl trivial ?_ rfl
  simp only [Tryd.ntmps56, List.size_toArray, List.length_cons, List.length_nil, Nat.reduceAdd, Nat.reduceSub, Array.replicate_succ, Array.replicate_zero, List.push_toArray, List.append_toArray, List.nil_append, List.cons_append]
  have H4 := four_heapV w (.cells (VL [n]) 3) (.cells (VL z24) 48) (.cells (VL z24) 48) (.cells #[.int .u32 R] 58)
  gi_wp2_with (refine ⟨trivial, ?_⟩; gi_at_call 76; refine (places_in _ _ _).mono ?_; rintro e w' ⟨rfl, rfl⟩)
  have hb := Boxed.new (((w.alloc (.cells (VL [n]) 3)).alloc (.cells (VL z24) 48)).alloc (.cells (VL z24) 48)) 58 (.int .u32 R)
  simp only [World.size_alloc] at hb
  refine wpIn_rangeFunc_ownF rfl (by omega) (gf := 90) (lb := #[.pointer (some ⟨w.heap.size + 1 + 1 + 1, 0, none⟩)]) rfl trivial (enters_of Tryd.func90 (by kernel_rfl) rfl)
    (places_stops 5 (by omega) (w.heap.size + 1 + 1 + 1) w.heap.size R hR ys hxs _ (by simp) (by simp; omega) hT.lt hb.cell (hT.below H4.2.2.2 hT.lt)) belowK_t (belowK_b (by simp; omega)) (Below.refl _ _) (fun _ => rfl)
    (fun pre W => ((W.heap[w.heap.size + 2]? = some (.cells (VL (F pre)) 48 (0, 0)) ∧ W.heap[w.heap.size + 1]? = some (.cells (VL z24) 48 (0, 0))) ∧ W.heap[w.heap.size]? = some (.cells (VL [n]) 3 (0, 0))) ∧ Below w.heap.size w W)
    (fun _ _ _ => False)
    ((((ownFrom_heapV (fun (pre : List (Fin 24)) => .cells (VL (F pre)) 48 (0, 0)) (by simp)).and (ownFrom_heapV (fun _ => .cells (VL z24) 48 (0, 0)) (by simp <;> omega))).and (ownFrom_heapV (fun _ => .cells (VL [n]) 3 (0, 0)) (by simp <;> omega))).and (ownFrom_below (Nat.le_refl _) (by simp; omega)))
    (fun _ _ _ _ _ hs _ _ => hs)
    ⟨⟨⟨by rw [HP0.out]; exact H4.2.2.1, H4.2.1⟩, H4.1⟩, H4.2.2.2⟩
    (fun x => { tmps := #[.int .u32 R, .int .i64 n, undef, .pointer (some ⟨w.heap.size, 0, none⟩), .pointer (some ⟨w.heap.size + 1, 0, none⟩), .pointer (some ⟨w.heap.size + 1 + 1, 0, none⟩), .int .i64 (x.val : Nat), .int .u32 R, .func (.func 90) #[] #[.pointer (some ⟨w.heap.size + 1 + 1 + 1, 0, none⟩)], .int .i64 (x.val : Nat), undef, undef, undef, undef], defers := [] }) ?assign ?body ?done ?stop
  case assign =>
    intro l x W K hK
    gi_wp2
    exact hK
  case body =>
    rintro l pre x W ⟨⟨⟨hp, h1⟩, h0⟩, hB⟩ hlt
    have hfp : W.frozen? ⟨w.heap.size + 2, x.val, none⟩ = false := Lib.frozen_of_heap hp _
    have hcp := VL_at (j := x.val) (F pre) (by rw [HLN.out]; exact x.isLt) hp
    have hc0 : W.cell? ⟨w.heap.size, 0, none⟩ = some (.int .i64 n) := VL_at (j := 0) [n] (by simp) h0
    have HSE := Lib.hid (HSN.out pre x)
    have hx0 : (0 : Int) ≤ ((x.val : Nat) : Int) := by omega
    have hx1 : ((x.val : Nat) : Int) < 24 := by have := x.isLt; omega
    have HSET := Lib.hid (fun u => VL_set (j := x.val) (F pre) u hp)
    generalize (F pre).getD x.val 0 = z at *
    have HSN2 := Lib.hid (HSET.out n)
    have H0 := Lib.hid h0
    have H1 := Lib.hid h1
    have HBB := Lib.hid hB
    clear hp h0 h1 hB
    gi_wp2
    have hs := set_step (w := w) (W := W) (g := w.heap.size + 2) (j := x.val) (by omega) (.int .i64 n)
    exact ⟨hs.1, hs.2.1, ⟨⟨by rw [HSE.out]; exact HSN2.out, (hs.2.2 _ (by omega)).trans H1.out⟩, (hs.2.2 _ (by omega)).trans H0.out⟩, HBB.out.trans hs.2.1⟩
  case done =>
    rintro D zs W hD rfl ⟨⟨⟨hp, h1⟩, h0⟩, hB⟩ hK
    have HI := Lib.hid (vcInfoL (F zs) (HLN.out zs))
    have HA := Lib.hid (VL_all (F zs))
    have hsz : (VL z24).size = (VL (F zs)).size := by rw [VL_size, VL_size, HLN.out]; rfl
    have HS := Lib.hid hsz
    have hD' : D ≠ w.heap.size + 1 := by simp at hD; omega
    clear hsz
    have HP := Lib.hid hp
    have H1 := Lib.hid h1
    have HB := Lib.hid hB
    have HK := Lib.hid hK
    clear hp h1 h0 hB hK
    generalize hV : VL (F zs) = V at *
    refine ‹∀ (a : Act) (w : World), _ → _› _ _ ?_
    refine wpIn_wide.2 ?_
    go_wp2_with (first
      | (refine wpList_load_row rfl 48 _ rfl (w.heap.size + 2) rfl 48 V (0, 0) _ HP.out Tryd.underlying48 rfl HI.out ?_)
      | (refine wpList_store_row rfl 48 _ _ rfl (w.heap.size + 1) V rfl rfl 48 (VL z24) H1.out HI.out HS.out HA.out ?_))
    have hK2 : (W.setRow (w.heap.size + 1) V).heap[D]? = some (.deferred (some [])) := (setRow_other _ _ _ _ hD').trans HK.out
    refine ⟨by simp, .inl ⟨_, _, rfl, run_takeDeferred hK2, ?_⟩⟩
    have hlt0 : w.heap.size + 1 < (W.setRow (w.heap.size + 1) V).heap.size := (Array.getElem?_eq_some_iff.1 (setRow_heap _ _ _ V _ _ H1.out)).1
    have hb3 := ((grownBy_putObj' (W.setRow (w.heap.size + 1) V) D (.deferred none)).block (w.heap.size + 1) hlt0 (fun e => hD' (by cases e; rfl))).trans (setRow_heap _ _ _ V _ _ H1.out)
    refine ⟨_, results_c rfl rfl (hb3 : Blk _ _ _ _) Tryd.underlying48 rfl HI.out, by rw [hV], ?_⟩
    exact (bel_row HB.out (by omega)).trans (belowK_b (w := w) (Nat.le_refl _) _ D _ _ (by simp at hD; omega) hK2 rfl rfl)
  case stop =>
    rintro D c pre W _ _ h _
    exact h.elim
theorem wvector_calls (R : Nat) (n : Int) (hR : R < 16777216) (w : World) (hT : TabB w) :
    Calls Tryd.prog 56 #[.int .u32 R, .int .i64 n] w fun e w' => e = .returned (.agg (VL (vL fun p => if R.testBit p then n else 0))) ∧ Below w.heap.size w w' :=
  callsIn_wide.1 (wvector_in R n hR w hT)
end Go.Proofs.YtmeejnkpaiinaabDoor
