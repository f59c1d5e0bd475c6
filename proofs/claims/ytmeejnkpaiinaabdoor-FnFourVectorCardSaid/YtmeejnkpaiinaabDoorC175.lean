/- The places of an octad with a minus sign, of the program. -/
import Derived.Test.YtmeejnkpaiinaabDoorC173
namespace Go.Proofs.YtmeejnkpaiinaabDoor
open Go.RowKit Go.Shelf
attribute [local go_sem] Oper.semAt_some
set_option linter.unusedVariables false
set_option linter.unusedSimpArgs false
attribute [local irreducible] cN syn

/-- What a round keeps and leaves. -/
theorem mn_step {w W X : World} {sg sg2 m m2 l l2 : Int} {ti tw : TypeId} (hB : Below w.heap.size w W) (h0 : W.heap[w.heap.size]? = some (.cells (VL [sg]) ti (0, 0))) (h1 : W.heap[w.heap.size + 1]? = some (.cells (VU [m]) tw (0, 0))) (h2 : W.heap[w.heap.size + 2]? = some (.cells (VL [l]) ti (0, 0)))
    (hX : X.heap = (((W.setCell ⟨w.heap.size + 1, 0, none⟩ (.int .u32 m2)).setCell ⟨w.heap.size, 0, none⟩ (.int .i64 sg2)).setCell ⟨w.heap.size + 2, 0, none⟩ (.int .i64 l2)).heap) :
    X.heap[w.heap.size]? = some (.cells (VL [sg2]) ti (0, 0)) ∧ X.heap[w.heap.size + 1]? = some (.cells (VU [m2]) tw (0, 0)) ∧ X.heap[w.heap.size + 2]? = some (.cells (VL [l2]) ti (0, 0)) := by
  have e1 : ∀ (V : World) (g j : Nat) (x : Value) (q : Nat), q ≠ g → (V.setCell ⟨g, j, none⟩ x).heap[q]? = V.heap[q]? := fun V g j x q hq => Below.heap_setCell V _ _ q hq
  rw [hX]
  refine ⟨?_, ?_, ?_⟩
  · rw [e1 _ _ _ _ _ (by omega)]
    exact VL_set (j := 0) [sg] sg2 ((e1 _ _ _ _ _ (by omega)).trans h0)
  · rw [e1 _ _ _ _ _ (by omega), e1 _ _ _ _ _ (by omega)]
    exact VU_set (j := 0) [m] m2 h1
  · exact VL_set (j := 0) [l] l2 ((e1 _ _ _ _ _ (by omega)).trans ((e1 _ _ _ _ _ (by omega)).trans h2))
theorem mn_step2 {w W X : World} {sg sg2 m l l2 : Int} {ti tw : TypeId} (hB : Below w.heap.size w W) (h0 : W.heap[w.heap.size]? = some (.cells (VL [sg]) ti (0, 0))) (h1 : W.heap[w.heap.size + 1]? = some (.cells (VU [m]) tw (0, 0))) (h2 : W.heap[w.heap.size + 2]? = some (.cells (VL [l]) ti (0, 0)))
    (hX : X.heap = ((W.setCell ⟨w.heap.size, 0, none⟩ (.int .i64 sg2)).setCell ⟨w.heap.size + 2, 0, none⟩ (.int .i64 l2)).heap) :
    X.heap[w.heap.size]? = some (.cells (VL [sg2]) ti (0, 0)) ∧ X.heap[w.heap.size + 1]? = some (.cells (VU [m]) tw (0, 0)) ∧ X.heap[w.heap.size + 2]? = some (.cells (VL [l2]) ti (0, 0)) := by
  have e1 : ∀ (V : World) (g j : Nat) (x : Value) (q : Nat), q ≠ g → (V.setCell ⟨g, j, none⟩ x).heap[q]? = V.heap[q]? := fun V g j x q hq => Below.heap_setCell V _ _ q hq
  rw [hX]
  refine ⟨?_, ?_, ?_⟩
  · rw [e1 _ _ _ _ _ (by omega)]
    exact VL_set (j := 0) [sg] sg2 h0
  · rw [e1 _ _ _ _ _ (by omega), e1 _ _ _ _ _ (by omega)]
    exact h1
  · exact VL_set (j := 0) [l] l2 ((e1 _ _ _ _ _ (by omega)).trans h2)
set_option maxRecDepth 100000 in
set_option maxHeartbeats 4000000 in
theorem minus_in (R s : Nat) (hR : R < 16777216) (h8 : pop R = 8) (hs : s < 128) (w : World) (hT : TabB w) :
    CallsIn Fence.wide 6 Tryd.prog 57 #[.int .u32 R, .int .i64 s] w fun e w' => e = .returned (.int .u32 ((minusW R s : Nat) : Int)) ∧ Below w.heap.size w w' := by
  obtain ⟨ys, hxs⟩ := plF_ex R
  have HMA := Lib.hid (minus_all R s h8 hs ys hxs)
  have HSN := Lib.hid (fun pre x => mnP_snoc s pre x)
  have HRN := Lib.hid (fun pre => mnP_rng s hs pre)
  have HP0 := Lib.hid (show mnP s [] = (0, s, 0) from rfl)
  generalize minusW R s = MW at *
  obtain ⟨F, hF⟩ : ∃ F, mnP s = F := ⟨_, rfl⟩
  rw [hF] at HMA HSN HRN HP0
  clear hF h8
  refine callsIn_of_wp_marks Tryd.func57 rfl trivial ?_ rfl
  simp only [Tryd.ntmps57, List.size_toArray, List.length_cons, List.length_nil, Nat.reduceAdd, Nat.reduceSub, Array.replicate_succ, Array.replicate_zero, List.push_toArray, List.append_toArray, List.nil_append, List.cons_append]
  have H4 := four_heapV w (.cells (VL [(s : Int)]) 3) (.cells (VU [0]) 58) (.cells (VL [0]) 3) (.cells #[.int .u32 R] 58)
  gi_wp2_with (refine ⟨trivial, ?_⟩; gi_at_call 76; refine (places_in _ _ _).mono ?_; rintro e w' ⟨rfl, rfl⟩)
  have hb := Boxed.new (((w.alloc (.cells (VL [(s : Int)]) 3)).alloc (.cells (VU [0]) 58)).alloc (.cells (VL [0]) 3)) 58 (.int .u32 R)
  simp only [World.size_alloc] at hb
  refine wpIn_rangeFunc_ownF rfl (by omega) (gf := 90) (lb := #[.pointer (some ⟨w.heap.size + 1 + 1 + 1, 0, none⟩)]) rfl trivial (enters_of Tryd.func90 (by kernel_rfl) rfl)
    (places_stops 5 (by omega) (w.heap.size + 1 + 1 + 1) w.heap.size R hR ys hxs _ (by simp) (by simp; omega) hT.lt hb.cell (hT.below H4.2.2.2 hT.lt)) belowK_t (belowK_b (by simp; omega)) (Below.refl _ _) (fun _ => rfl)
    (fun pre W => ((W.heap[w.heap.size]? = some (.cells (VL [(((F pre).2.1 : Nat) : Int)]) 3 (0, 0)) ∧ W.heap[w.heap.size + 1]? = some (.cells (VU [(((F pre).1 : Nat) : Int)]) 58 (0, 0))) ∧ W.heap[w.heap.size + 2]? = some (.cells (VL [(((F pre).2.2 : Nat) : Int)]) 3 (0, 0))) ∧ Below w.heap.size w W)
    (fun _ _ _ => False)
    ((((ownFrom_heapV (fun (pre : List (Fin 24)) => .cells (VL [(((F pre).2.1 : Nat) : Int)]) 3 (0, 0)) (by simp <;> omega)).and (ownFrom_heapV (fun pre => .cells (VU [(((F pre).1 : Nat) : Int)]) 58 (0, 0)) (by simp <;> omega))).and (ownFrom_heapV (fun pre => .cells (VL [(((F pre).2.2 : Nat) : Int)]) 3 (0, 0)) (by simp))).and (ownFrom_below (Nat.le_refl _) (by simp; omega)))
    (fun _ _ _ _ _ hs _ _ => hs)
    ⟨⟨⟨by rw [HP0.out]; exact H4.1, by rw [HP0.out]; exact H4.2.1⟩, by rw [HP0.out]; exact H4.2.2.1⟩, H4.2.2.2⟩
    (fun x => { tmps := #[.int .u32 R, .int .i64 s, undef, .pointer (some ⟨w.heap.size, 0, none⟩), .int .u32 0, .pointer (some ⟨w.heap.size + 1, 0, none⟩), .pointer (some ⟨w.heap.size + 1 + 1, 0, none⟩), .int .i64 (x.val : Nat), .int .u32 R, .func (.func 90) #[] #[.pointer (some ⟨w.heap.size + 1 + 1 + 1, 0, none⟩)], .int .i64 (x.val : Nat), undef, undef, undef, undef, undef, undef, undef, undef, undef, undef, undef, undef, undef, undef, undef, undef, undef, undef, undef], defers := [] }) ?assign ?body ?done ?stop
  case assign =>
    intro l x W K hK
    gi_wp2
    exact hK
  case body =>
    rintro l pre x W ⟨⟨⟨h0, h1⟩, h2⟩, hB⟩ hlt
    have hd : 1 ≤ 6 - 1 - 1 := by omega
    have hmx : Tryd.prog.follows .mixedOrders = true := by kernel_rfl
    have hrn := HRN.out pre
    have HSE := Lib.hid (HSN.out pre x)
    obtain ⟨m, sg, lt, hFP⟩ : ∃ m sg lt, F pre = (m, sg, lt) := ⟨_, _, _, rfl⟩
    rw [hFP] at HSE
    simp only [hFP] at hrn h0 h1 h2
    clear hFP
    have hc0 : W.cell? ⟨w.heap.size, 0, none⟩ = some (.int .i64 (sg : Int)) := VL_at (j := 0) [(sg : Int)] (by simp) h0
    have hf0 : W.frozen? ⟨w.heap.size, 0, none⟩ = false := Lib.frozen_of_heap h0 _
    have hc1 : W.cell? ⟨w.heap.size + 1, 0, none⟩ = some (.int .u32 (m : Int)) := VU_at (j := 0) [(m : Int)] (by simp) h1
    have hf1 : W.frozen? ⟨w.heap.size + 1, 0, none⟩ = false := Lib.frozen_of_heap h1 _
    have hc2 : W.cell? ⟨w.heap.size + 2, 0, none⟩ = some (.int .i64 (lt : Int)) := VL_at (j := 0) [(lt : Int)] (by simp) h2
    have hf2 : W.frozen? ⟨w.heap.size + 2, 0, none⟩ = false := Lib.frozen_of_heap h2 _
    have HST := Lib.hid (fun X m2 sg2 l2 hX => mn_step (X := X) (m2 := m2) (sg2 := sg2) (l2 := l2) hB h0 h1 h2 hX)
    have HBB := Lib.hid hB
    have hpm : ((sg : Nat) : Int).tmod 2 = ((sg % 2 : Nat) : Int) := by rw [Int.tmod_eq_emod_of_nonneg (by omega)]; omega
    have hqo : ((sg : Nat) : Int).tdiv 2 = ((sg / 2 : Nat) : Int) := by rw [Int.tdiv_eq_ediv_of_nonneg (by omega)]; omega
    have hx1 := x.isLt
    by_cases hodd : sg % 2 = 1
    · rw [hodd] at hpm
      have HSE2 := Lib.hid (show F (pre ++ [x]) = (m ^^^ 2 ^ x.val, sg / 2, x.val) by rw [HSE.out]; unfold mnS; simp only [hodd, if_true])
      have HAD := Lib.hid (fun W => word_add (m : Int) (powI ((x.val : Nat) : Int)) W (by omega) (by omega) (Int.le_of_lt (powI_pos _)) (by have := powI_le ((x.val : Nat) : Int) (by omega) (by omega); omega))
      rw [xorI_powN] at HAD
      have HAT := Lib.hid (fun W => wordAt_calls ((x.val : Nat) : Int) W (by omega) (by omega))
      generalize m ^^^ 2 ^ x.val = m2 at *
      generalize powI ((x.val : Nat) : Int) = pw at *
      clear h0 h1 h2 hB HSE
      gi_wp2
      gi_region_with_o (first
        | (refine ⟨trivial, ?_⟩; gi_at_call 83; refine (CallsIn.inRound l (callsIn_wide.2 (HAT.out _))).mono ?_; rintro e w' ⟨rfl, rfl⟩)
        | (refine ⟨trivial, ?_⟩; gi_at_call 69; refine (CallsIn.inRound l (callsIn_wide.2 (HAD.out _))).mono ?_; rintro e w' ⟨rfl, rfl⟩))
      all_goals gi_wp2
      all_goals
        have hst := HST.out _ (m2 : Int) ((sg : Int) / 2) ((x.val : Nat) : Int) (show (World.drew (((W.setCell ⟨w.heap.size + 1, 0, none⟩ (.int .u32 (m2 : Int))).setCell ⟨w.heap.size, 0, none⟩ (.int .i64 ((sg : Int) / 2))).setCell ⟨w.heap.size + 1 + 1, 0, none⟩ (.int .i64 ((x.val : Nat) : Int)))).heap = _ from rfl)
        have hbb : Below w.heap.size W (World.drew (((W.setCell ⟨w.heap.size + 1, 0, none⟩ (.int .u32 (m2 : Int))).setCell ⟨w.heap.size, 0, none⟩ (.int .i64 ((sg : Int) / 2))).setCell ⟨w.heap.size + 1 + 1, 0, none⟩ (.int .i64 ((x.val : Nat) : Int)))) :=
          ((((Below.refl _ W).setCell (p := ⟨w.heap.size + 1, 0, none⟩) (Nat.le_succ _) _).setCell (p := ⟨w.heap.size, 0, none⟩) (Nat.le_refl _) _).setCell (p := ⟨w.heap.size + 1 + 1, 0, none⟩) (Nat.le_succ_of_le (Nat.le_succ _)) _).drew
        have hdiv : ((sg / 2 : Nat) : Int) = (sg : Int) / 2 := by omega
        refine ⟨(((KeepsOthers.setCell _ _ _).trans (KeepsOthers.setCell _ _ _)).trans (KeepsOthers.setCell _ _ _)).trans (KeepsOthers.drew _), hbb, ⟨⟨⟨?_, ?_⟩, ?_⟩, HBB.out.trans hbb⟩⟩
        · rw [HSE2.out]; show _ = some (Obj.cells (VL [((sg / 2 : Nat) : Int)]) _ _); rw [hdiv]; exact hst.1
        · rw [HSE2.out]; exact hst.2.1
        · rw [HSE2.out]; exact hst.2.2
    · have hev : sg % 2 = 0 := by omega
      rw [hev] at hpm
      have HSE2 := Lib.hid (show F (pre ++ [x]) = (m, sg / 2, x.val) by rw [HSE.out]; unfold mnS; simp only [hev, Nat.zero_ne_one, if_false])
      have HST2 := Lib.hid (fun X sg2 l2 hX => mn_step2 (X := X) (sg2 := sg2) (l2 := l2) hB h0 h1 h2 hX)
      clear h0 h1 h2 hB HSE HST hodd
      gi_wp2
      have hst := HST2.out _ ((sg : Int) / 2) ((x.val : Nat) : Int) (show ((W.setCell ⟨w.heap.size, 0, none⟩ (.int .i64 ((sg : Int) / 2))).setCell ⟨w.heap.size + 1 + 1, 0, none⟩ (.int .i64 ((x.val : Nat) : Int))).heap = _ from rfl)
      have hbb : Below w.heap.size W ((W.setCell ⟨w.heap.size, 0, none⟩ (.int .i64 ((sg : Int) / 2))).setCell ⟨w.heap.size + 1 + 1, 0, none⟩ (.int .i64 ((x.val : Nat) : Int))) :=
        ((Below.refl _ W).setCell (p := ⟨w.heap.size, 0, none⟩) (Nat.le_refl _) _).setCell (p := ⟨w.heap.size + 1 + 1, 0, none⟩) (Nat.le_succ_of_le (Nat.le_succ _)) _
      have hdiv : ((sg / 2 : Nat) : Int) = (sg : Int) / 2 := by omega
      refine ⟨(KeepsOthers.setCell _ _ _).trans (KeepsOthers.setCell _ _ _), hbb, ⟨⟨⟨?_, ?_⟩, ?_⟩, HBB.out.trans hbb⟩⟩
      · rw [HSE2.out]; show _ = some (Obj.cells (VL [((sg / 2 : Nat) : Int)]) _ _); rw [hdiv]; exact hst.1
      · rw [HSE2.out]; exact hst.2.1
      · rw [HSE2.out]; exact hst.2.2
  case done =>
    rintro D zs W hD rfl ⟨⟨⟨h0, h1⟩, h2⟩, hB⟩ hK
    have hrn := HRN.out zs
    obtain ⟨m, sg, lt, hFP⟩ : ∃ m sg lt, F zs = (m, sg, lt) := ⟨_, _, _, rfl⟩
    rw [hFP] at HMA
    simp only [hFP] at hrn h0 h1 h2
    clear hFP
    have hma := HMA.out
    simp only at hma
    have hc1 : W.cell? ⟨w.heap.size + 1, 0, none⟩ = some (.int .u32 (m : Int)) := VU_at (j := 0) [(m : Int)] (by simp) h1
    have hf1 : W.frozen? ⟨w.heap.size + 1, 0, none⟩ = false := Lib.frozen_of_heap h1 _
    have hc2 : W.cell? ⟨w.heap.size + 2, 0, none⟩ = some (.int .i64 (lt : Int)) := VL_at (j := 0) [(lt : Int)] (by simp) h2
    have hD' : D ≠ w.heap.size + 1 := by simp at hD; omega
    have hD2 : w.heap.size ≤ D := by simp at hD; omega
    have HB := Lib.hid hB
    have HK := Lib.hid hK
    have HW := Lib.hid (fun W => word_weight (m : Int) W (by omega) (by omega))
    rw [wt_pop] at HW
    have hpm : ((pop m : Nat) : Int).tmod 2 = ((pop m % 2 : Nat) : Int) := by rw [Int.tmod_eq_emod_of_nonneg (by omega)]; omega
    rw [hma.1] at hpm
    have HAD := Lib.hid (fun W => word_add (m : Int) (powI (lt : Int)) W (by omega) (by omega) (Int.le_of_lt (powI_pos _)) (by have := powI_le (lt : Int) (by omega) (by omega); omega))
    rw [xorI_powN] at HAD
    have HAT := Lib.hid (fun W => wordAt_calls (lt : Int) W (by omega) (by omega))
    clear h0 h1 h2 hB hK HMA
    by_cases hodd : pop s % 2 = 1
    · rw [hodd] at hpm
      have hm2 := hma.2
      rw [if_pos hodd] at hm2
      rw [hm2] at HAD
      clear hma hm2 hodd
      generalize pop m = pm at *
      generalize powI (lt : Int) = pw at *
      refine ‹∀ (a : Act) (w : World), _ → _› _ _ ?_
      refine wpIn_wide.2 ?_
      go_wp2_with (go_at_call 84; refine (HW.out _).mono ?_; rintro e w' ⟨rfl, kk, rfl⟩)
      go_region_with (first
        | (go_at_call 83; refine (HAT.out _).mono ?_; rintro e w' ⟨rfl, rfl⟩)
        | (go_at_call 69; refine (HAD.out _).mono ?_; rintro e w' ⟨rfl, rfl⟩))
      all_goals go_wp2_with fail
      all_goals
        have hK2 : ((W.drewN (kk + 1)).setCell ⟨w.heap.size + 1, 0, none⟩ (.int .u32 (MW : Int))).heap[D]? = some (.deferred (some [])) := (Below.heap_setCell _ _ _ D hD').trans HK.out
        have hbs : Below w.heap.size w ((W.drewN (kk + 1)).setCell ⟨w.heap.size + 1, 0, none⟩ (.int .u32 (MW : Int))) := (below_drewN HB.out (kk + 1)).setCell (p := ⟨w.heap.size + 1, 0, none⟩) (Nat.le_succ _) _
        refine ⟨by simp, .inl ⟨_, _, rfl, run_takeDeferred hK2, ?_⟩⟩
        refine ⟨_, results_tmp rfl _ _ _, rfl, ?_⟩
        exact hbs.trans (belowK_b (w := w) (Nat.le_refl _) _ D _ _ (by simp at hD; omega) hK2 rfl rfl)
    · have hev : pop s % 2 = 0 := by omega
      rw [hev] at hpm
      have hm2 := hma.2
      rw [if_neg hodd] at hm2
      subst hm2
      clear hma hodd hev HAD HAT
      generalize pop m = pm at *
      refine ‹∀ (a : Act) (w : World), _ → _› _ _ ?_
      refine wpIn_wide.2 ?_
      go_wp2_with (go_at_call 84; refine (HW.out _).mono ?_; rintro e w' ⟨rfl, kk, rfl⟩)
      have hK2 : (W.drewN kk).heap[D]? = some (.deferred (some [])) := HK.out
      refine ⟨by simp, .inl ⟨_, _, rfl, run_takeDeferred hK2, ?_⟩⟩
      refine ⟨_, results_tmp rfl _ _ _, rfl, ?_⟩
      exact (below_drewN HB.out kk).trans (belowK_b (w := w) (Nat.le_refl _) _ D _ _ (by simp at hD; omega) hK2 rfl rfl)
  case stop =>
    rintro D c pre W _ _ h _
    exact h.elim
theorem minus_calls (R s : Nat) (hR : R < 16777216) (h8 : pop R = 8) (hs : s < 128) (w : World) (hT : TabB w) :
    Calls Tryd.prog 57 #[.int .u32 R, .int .i64 s] w fun e w' => e = .returned (.int .u32 ((minusW R s : Nat) : Int)) ∧ Below w.heap.size w w' :=
  callsIn_wide.1 (minus_in R s hR h8 hs w hT)
end Go.Proofs.YtmeejnkpaiinaabDoor
