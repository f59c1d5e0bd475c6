/- The iterator over the octads with places and without others, of the program. -/
import Derived.Test.YtmeejnkpaiinaacGreatDoorC30
import Derived.Test.YtmeejnkpaiinaacGreatDoorQ7
namespace Go.Proofs.YtmeejnkpaiinaacGreatDoor
open Go.RowKit Go.Shelf
attribute [local go_sem] Oper.semAt_some
set_option linter.unusedVariables false
attribute [local irreducible] octS cN octF

/-- Octads with all places of a and none of b. -/
def Oc (a b : Int) : Type := {x : Int // IsOct x ∧ oC a b x = true}
def toO (a b : Int) (x : Fin 4096) : Option (Oc a b) := if h : wt (codeOf (x.val : Nat)) = 8 ∧ oC a b (codeOf (x.val : Nat)) = true then some ⟨codeOf (x.val : Nat), ⟨⟨x.val, x.isLt, rfl, h.1⟩, h.2⟩⟩ else none
def octsOf (a b : Int) (xs : List (Fin 4096)) : List (Oc a b) := xs.filterMap (toO a b)
theorem octsOf_yes (a b : Int) (pre : List (Fin 4096)) (x : Fin 4096) (h : wt (codeOf (x.val : Nat)) = 8 ∧ oC a b (codeOf (x.val : Nat)) = true) : octsOf a b (pre ++ [x]) = octsOf a b pre ++ [⟨codeOf (x.val : Nat), ⟨⟨x.val, x.isLt, rfl, h.1⟩, h.2⟩⟩] := by
  unfold octsOf
  rw [List.filterMap_append]
  congr 1
  simp only [List.filterMap_cons, List.filterMap_nil, toO, dif_pos h]
theorem octsOf_no (a b : Int) (pre : List (Fin 4096)) (x : Fin 4096) (h : ¬ (wt (codeOf (x.val : Nat)) = 8 ∧ oC a b (codeOf (x.val : Nat)) = true)) : octsOf a b (pre ++ [x]) = octsOf a b pre := by
  unfold octsOf
  rw [List.filterMap_append]
  simp only [List.filterMap_cons, List.filterMap_nil, toO, dif_neg h, List.append_nil]
theorem octsOf_ex (a b : Int) (pre : List (Fin 4096)) (x : Fin 4096) (h : wt (codeOf (x.val : Nat)) = 8 ∧ oC a b (codeOf (x.val : Nat)) = true) : ∃ y : Oc a b, y.val = codeOf (x.val : Nat) ∧ octsOf a b (pre ++ [x]) = octsOf a b pre ++ [y] :=
  ⟨_, rfl, octsOf_yes a b pre x h⟩
theorem own_comap {β γ : Type} {B B' : Nat} {I : β → World → Prop} (h : OwnFrom B I) (hB : B ≤ B') (f : γ → β) : OwnFrom B' (fun s W => I (f s) W) :=
  fun s A C row hs hg hr => h (f s) A C row hs hg fun r e => ⟨Nat.le_trans hB (hr r e).1, (hr r e).2⟩
theorem octsOf_len (a b : Int) (pre : List (Fin 4096)) : (octsOf a b pre).length ≤ pre.length := List.length_filterMap_le _ _
theorem octsOf_vals (a b : Int) (k : Nat) : ∀ xs : List (Fin 4096), xs.map (fun x => x.val) = List.range k → (octsOf a b xs).map (fun x => x.val) = (octF k).filter (oC a b) := by
  induction k with
  | zero =>
    intro xs h
    obtain rfl : xs = [] := by simpa using h
    rw [octF_zero]
    rfl
  | succ k ih =>
    intro xs h
    rw [List.range_succ] at h
    rcases List.eq_nil_or_concat xs with rfl | ⟨L, x, rfl⟩
    · simp at h
    rw [List.concat_eq_append, List.map_append] at h
    have h2 := List.append_inj' h rfl
    have hx : x.val = k := by simpa using h2.2
    rw [List.concat_eq_append]
    rw [octF_succ]
    by_cases h8 : wt (codeOf (x.val : Nat)) = 8
    · rw [if_pos (by rw [← hx]; exact h8), filter_snoc]
      by_cases hc : oC a b (codeOf (x.val : Nat)) = true
      · rw [octsOf_yes a b L x ⟨h8, hc⟩, List.map_append, ih L h2.1, if_pos (by rw [← hx]; exact hc), ← hx]
        rfl
      · rw [octsOf_no a b L x (fun h => hc h.2), ih L h2.1, if_neg (by rw [← hx]; exact hc)]
    · rw [octsOf_no a b L x (fun h => h8 h.1), ih L h2.1, if_neg (by rw [← hx]; exact h8)]
/-- What came ahead of an octad, told. -/
def OcAt (a b : Int) (pre : List (Oc a b)) (x : Oc a b) : Prop := ∃ j, j ≤ 4096 ∧ (pre ++ [x]).map (fun x => x.val) = (octF j).filter (oC a b)
theorem OcAt.len {a b : Int} {pre : List (Oc a b)} {x : Oc a b} (h : OcAt a b pre x) : pre.length < 4096 := by
  obtain ⟨j, hj, e⟩ := h
  have h1 := congrArg List.length e
  have h2 := List.length_filter_le (oC a b) (octF j)
  have h3 := octF_len j
  rw [List.length_map, List.length_append, List.length_singleton] at h1
  omega
theorem ocAt_of (a b : Int) (pre : List (Fin 4096)) (x : Fin 4096) (hl : pre.length < 4095 + 1 - 0) (h : (pre ++ [x]).map (fun x => x.val) = List.range' 0 (pre.length + 1)) (y : Oc a b) (hy : octsOf a b (pre ++ [x]) = octsOf a b pre ++ [y]) : OcAt a b (octsOf a b pre) y :=
  ⟨pre.length + 1, by omega, by rw [← hy]; exact octsOf_vals a b (pre.length + 1) _ (by rw [h, List.range_eq_range'])⟩
theorem octF_pre (j : Nat) (hj : j ≤ 4096) : ∀ k, k + j = 4096 → (octF j).Sublist (octF 4096)
  | 0, e => by rw [show j = 4096 by omega]; exact List.Sublist.refl _
  | k + 1, e => by
    have ih := octF_pre (j + 1) (by omega) k (by omega)
    refine List.Sublist.trans ?_ ih
    rw [octF_succ]
    split
    · exact List.sublist_append_left _ _
    · exact List.Sublist.refl _
theorem OcAt.sub {a b : Int} {pre : List (Oc a b)} {x : Oc a b} (h : OcAt a b pre x) (k : Nat) (hk : k = 4096) : ((pre ++ [x]).map (fun x => x.val)).Sublist ((octF k).filter (oC a b)) := by
  obtain ⟨j, hj, e⟩ := h
  rw [e, hk]
  exact (octF_pre j hj (4096 - j) (by omega)).filter _
def encO {a b : Int} (x : Oc a b) : Array Value := #[.int .u32 x.val]
theorem word_hasAll (a b : Int) (w : World) (ha : IsW a) (hb : IsW b) :
    Calls Tryz.prog 72 #[.int .u32 a, .int .u32 b] w fun e w' => e = .returned (.bool (andI a b == b)) ∧ w = w' := by
  go_enter Tryz.func72, Tryz.ntmps72
  go_wp2_with (go_at_call 114; refine (word_meet a b _ ha.1 ha.2 hb.1 hb.2).mono ?_; rintro e w' ⟨rfl, rfl⟩)
  go_ret
  exact ⟨rfl, rfl⟩
/-- What 'octadsWith' leaves in memory: two boxes. -/
def owW (a b : Int) (w : World) : World := (w.alloc (.cells #[.int .u32 a] 63)).alloc (.cells #[.int .u32 b] 63)
theorem owW_size (a b : Int) (w : World) : (owW a b w).heap.size = w.heap.size + 2 := by simp [owW]
theorem owW_below (a b : Int) (w : World) : Below w.heap.size w (owW a b w) := ((Below.refl _ w).alloc (Nat.le_refl _) _).alloc (by simp) _
theorem owW_cells (a b : Int) (w : World) : (owW a b w).cell? ⟨w.heap.size, 0, none⟩ = some (.int .u32 a) ∧ (owW a b w).cell? ⟨w.heap.size + 1, 0, none⟩ = some (.int .u32 b) := by
  refine ⟨((Boxed.new w 63 (.int .u32 a)).alloc _).cell, ?_⟩
  have := Boxed.new (w.alloc (.cells #[.int .u32 a] 63)) 63 (.int .u32 b)
  rw [World.size_alloc] at this
  exact this.cell
theorem octadsWith_calls (a b : Int) (w : World) :
    Calls Tryz.prog 115 #[.int .u32 a, .int .u32 b] w fun e w' => e = .returned (.func (.func 163) #[] #[.pointer (some ⟨w.heap.size, 0, none⟩), .pointer (some ⟨w.heap.size + 1, 0, none⟩)]) ∧ w' = owW a b w := by
  go_enter Tryz.func115, Tryz.ntmps115
  go_wp2
  go_ret
  exact ⟨rfl, rfl⟩
theorem codeAll_it (n₀ lw mid : Nat) (w W : World) (hb : Below (cwW 0 4095 w).heap.size (cwW 0 4095 w) W) (hn : n₀ ≤ w.heap.size) (hg : tab2G < n₀) (hl : lw ≤ w.heap.size) (hm : w.heap.size + 4 ≤ mid) (hmW : mid ≤ W.heap.size) (hT : Tab2 w) :
    SeqItG Tryz.prog 220 #[.pointer (some ⟨w.heap.size + 2, 0, none⟩), .pointer (some ⟨w.heap.size + 3, 0, none⟩)] encW 3 (KpOf n₀ lw mid) (fun ys => ys.map (fun x => x.val) = msgs 0 4095) (fun _ => True) (MsgAt 0 4095) W :=
  codeWords_itG 0 4095 n₀ lw mid (by omega) (by omega) w W hb hn hg hl hm hmW hT
set_option maxRecDepth 100000 in
set_option maxHeartbeats 4000000 in
theorem octads_itG (a b : Int) (wa : IsW a) (wb : IsW b) (k n₀ lw mid B1 B2 : Nat) (hk : k = 4096) (w : World) (hB1 : B1 < w.heap.size) (hB2 : B2 < w.heap.size) (hl1 : lw ≤ B1) (hl2 : lw ≤ B2) (hm1 : B1 < mid) (hm2 : B2 < mid) (hmw : mid ≤ w.heap.size) (hnw : n₀ ≤ w.heap.size) (hg : tab2G < n₀)
    (hc1 : w.cell? ⟨B1, 0, none⟩ = some (.int .u32 a)) (hc2 : w.cell? ⟨B2, 0, none⟩ = some (.int .u32 b)) (hT : Tab2 w) :
    SeqItG Tryz.prog 163 #[.pointer (some ⟨B1, 0, none⟩), .pointer (some ⟨B2, 0, none⟩)] (encO (a := a) (b := b)) 10 (KpOf n₀ lw mid) (fun ys => ys.map (fun x => x.val) = (octF k).filter (oC a b)) (fun _ => True) (OcAt a b) w := by
  intro l J Jx W0 hW hl hJ hJx hY h0
  have hc1' : W0.cell? ⟨B1, 0, none⟩ = some (.int .u32 a) := (hW.cell (p := ⟨B1, 0, none⟩) hB1).trans hc1
  have hc2' : W0.cell? ⟨B2, 0, none⟩ = some (.int .u32 b) := (hW.cell (p := ⟨B2, 0, none⟩) hB2).trans hc2
  have hs0 := hW.size
  have hT0 : Tab2 W0 := hT.below hW (by have := hT.lt; omega)
  have HY := Lib.hid hY
  have HJ := Lib.hid hJ
  have HJx := Lib.hid hJx
  have H0 := Lib.hid h0
  clear hc1 hc2 hT hY hJ hJx h0 hW
  refine (callsIn_wide (n := 6)).1 (callsIn_of_wp_marks Tryz.func163 rfl trivial ?_ rfl)
  simp only [Tryz.ntmps163, List.size_toArray, List.length_cons, List.length_nil, Nat.reduceAdd, Nat.reduceSub, Array.replicate_succ, Array.replicate_zero, List.push_toArray, List.append_toArray, List.nil_append, List.cons_append]
  gi_wp2_with (refine ⟨trivial, ?_⟩; gi_at_call 164; refine (callsIn_wide.2 (codeWords_calls _ _ _)).mono ?_; rintro e w' ⟨rfl, rfl⟩)
  have hsB : (W0.alloc (.cells #[.func (.yield l) #[] #[]] 83)).heap.size = W0.heap.size + 1 := by simp
  have hBA : Below W0.heap.size W0 (W0.alloc (.cells #[.func (.yield l) #[] #[]] 83)) := (Below.refl _ W0).alloc (Nat.le_refl _) _
  have hyb : (W0.alloc (.cells #[.func (.yield l) #[] #[]] 83)).heap[W0.heap.size]? = some (.cells #[.func (.yield l) #[] #[]] 83 (0, 0)) := World.alloc_heap_new _ _
  have hTA : Tab2 (W0.alloc (.cells #[.func (.yield l) #[] #[]] 83)) := hT0.below hBA hT0.lt
  have hJ0 := HJ.out.alloc (.cells #[.func (.yield l) #[] #[]] 83) H0.out
  generalize W0.alloc (.cells #[.func (.yield l) #[] #[]] 83) = V0 at *
  have hs4 := cwW_size 0 4095 V0
  have hcb := cwW_below 0 4095 V0
  have hit := codeAll_it n₀ (W0.heap.size + 1) (W0.heap.size + 5) V0 (cwW 0 4095 V0) (Below.refl _ _) (by omega) hg (by omega) (by omega) (by omega) hTA
  rw [hsB] at hit hs4
  have hy4 := (hcb.block W0.heap.size (by omega)).trans hyb
  have hJ4 := own_below HJ.out hJ0 hcb
  have hB4 : Below W0.heap.size W0 (cwW 0 4095 V0) := hBA.trans (hcb.mono hBA.size)
  clear hcb hyb hBA hTA hJ0
  generalize cwW 0 4095 V0 = W2 at *
  refine wp_range_it (gf := 220) (lb := #[.pointer (some ⟨W0.heap.size + 1 + 2, 0, none⟩), .pointer (some ⟨W0.heap.size + 1 + 3, 0, none⟩)]) rfl (enters_of Tryz.func220 (by kernel_rfl) rfl) hit (fun h k => KpOf.trans h k) (fun V j o hj hjl => KpOf.put V j o (by omega) (by omega) hjl) (Below.refl _ _) (fun _ => rfl)
    (fun pre V => (J (octsOf a b pre) V ∧ V.heap[W0.heap.size]? = some (.cells #[.func (.yield l) #[] #[]] 83 (0, 0))) ∧ KpOf n₀ lw mid W0 V)
    (fun c pre V => Jx (octsOf a b pre) V ∧ c = .ret)
    (((own_comap HJ.out (by omega) (octsOf a b)).and (ownFrom_at (fun _ => .cells #[.func (.yield l) #[] #[]] 83 (0, 0)) (by omega))).and (KpOf.own (by omega) (by omega) (by omega) (by omega)))
    (fun c => (own_comap HJx.out (by omega) (octsOf a b)).and (ownFrom_pure _ (fun _ => c = .ret)))
    ⟨⟨hJ4, hy4⟩, KpOf.of_below hB4 (by omega) (by omega)⟩
    (fun x => { tmps := #[.func (.yield l) #[] #[], .pointer (some ⟨B1, 0, none⟩), .pointer (some ⟨B2, 0, none⟩), .pointer (some ⟨W0.heap.size, 0, none⟩), .int .u32 (codeOf (x.val : Nat)), .func (.func 220) #[] #[.pointer (some ⟨W0.heap.size + 1 + 2, 0, none⟩), .pointer (some ⟨W0.heap.size + 1 + 3, 0, none⟩)], .int .u32 (codeOf (x.val : Nat)), undef, undef, undef, undef, undef, undef, undef, undef, undef, undef, undef, undef, undef, undef, undef, undef, undef, undef, undef, undef], defers := [] }) ?assign ?body ?done ?stop
  case assign =>
    intro l' x V K' hK
    unfold encW
    gi_wp2
    exact hK
  case body =>
    rintro l' pre x V ⟨⟨hj, hy0⟩, hkp⟩ ⟨hlen, hmp⟩ hsz
    have HAT := Lib.hid (ocAt_of a b pre x hlen hmp)
    clear hmp
    have hcy : V.cell? ⟨W0.heap.size, 0, none⟩ = some (.func (.yield l) #[] #[]) := (Boxed.cell (t := 83) hy0)
    have hca : V.cell? ⟨B1, 0, none⟩ = some (.int .u32 a) := (hkp.cell (p := ⟨B1, 0, none⟩) hl1 hm1).trans hc1'
    have hcb : V.cell? ⟨B2, 0, none⟩ = some (.int .u32 b) := (hkp.cell (p := ⟨B2, 0, none⟩) hl2 hm2).trans hc2'
    have hcx : IsW (codeOf (x.val : Nat)) := ⟨(codeOf_range _).1, (codeOf_range _).2⟩
    have HYES := Lib.hid (fun h => octsOf_ex a b pre x h)
    have HNO := Lib.hid (fun h => octsOf_no a b pre x h)
    have HJV := Lib.hid hj
    have HY0 := Lib.hid hy0
    have HKP := Lib.hid hkp
    have hpl := octsOf_len a b pre
    have HXO := Lib.hid (show wt (codeOf (x.val : Nat)) = 8 → IsOct (codeOf (x.val : Nat)) from fun h => ⟨x.val, x.isLt, rfl, h⟩)
    clear hj hy0 hkp hit hB4 hy4 hJ4
    generalize codeOf (x.val : Nat) = cx at *
    by_cases h8 : wt cx = 8
    · have H8 := Lib.hid h8
      cases hA : andI cx a == a
      · have HA := Lib.hid hA
        have HN := Lib.hid (HNO.out (fun h => by have := h.2; simp [oC, hA] at this))
        clear h8 hA
        gi_wp2_with (first
          | (refine ⟨trivial, ?_⟩; gi_at_call 69; refine (CallsIn.inRound l' (callsIn_wide.2 (word_weight _ _ hcx.1 hcx.2))).mono ?_; rintro e w' ⟨he, kk, rfl⟩; rw [H8.out] at he; subst he)
          | (refine ⟨trivial, ?_⟩; gi_at_call 72; refine (CallsIn.inRound l' (callsIn_wide.2 (word_hasAll _ _ _ hcx wa))).mono ?_; rintro e w' ⟨he, rfl⟩; rw [HA.out] at he; subst he)
          | (refine ⟨trivial, ?_⟩)
          | (refine ⟨?_, ?_⟩; focus (intro f h; simp at h; done)))
        gi_wp2_with fail
        have hdb := below_drewN (Below.refl V.heap.size V) kk
        refine ⟨KeepsIn.of_below hdb (by omega), KpOf.of_below hdb (by omega) (by omega), ⟨?_, HY0.out⟩, HKP.out.trans (KpOf.of_below hdb (by omega) (by omega))⟩
        rw [HN.out]
        exact own_below HJ.out HJV.out hdb
      · cases hB : andI cx b == 0
        · have HA := Lib.hid hA
          have HN := Lib.hid (HNO.out (fun h => by have := h.2; simp [oC, hB] at this))
          clear h8 hA
          gi_wp2_with (first
          | (refine ⟨trivial, ?_⟩; gi_at_call 69; refine (CallsIn.inRound l' (callsIn_wide.2 (word_weight _ _ hcx.1 hcx.2))).mono ?_; rintro e w' ⟨he, kk, rfl⟩; rw [H8.out] at he; subst he)
          | (refine ⟨trivial, ?_⟩; gi_at_call 72; refine (CallsIn.inRound l' (callsIn_wide.2 (word_hasAll _ _ _ hcx wa))).mono ?_; rintro e w' ⟨he, rfl⟩; rw [HA.out] at he; subst he)
          | (refine ⟨trivial, ?_⟩; gi_at_call 114; refine (CallsIn.inRound l' (callsIn_wide.2 (word_meet _ _ _ hcx.1 hcx.2 wb.1 wb.2))).mono ?_; rintro e w' ⟨rfl, rfl⟩)
          | (refine ⟨trivial, ?_⟩)
          | (refine ⟨?_, ?_⟩; focus (intro f h; simp at h; done)))
          gi_wp2_with fail
          have hdb := below_drewN (Below.refl V.heap.size V) kk
          refine ⟨KeepsIn.of_below hdb (by omega), KpOf.of_below hdb (by omega) (by omega), ⟨?_, HY0.out⟩, HKP.out.trans (KpOf.of_below hdb (by omega) (by omega))⟩
          rw [HN.out]
          exact own_below HJ.out HJV.out hdb
        · have HA := Lib.hid hA
          obtain ⟨y, rfl, hyy⟩ := HYES.out ⟨h8, by simp [oC, hA, hB]⟩
          have HYY := Lib.hid hyy
          clear h8 hA hyy
          gi_wp2_with (first
          | (refine ⟨trivial, ?_⟩; gi_at_call 69; refine (CallsIn.inRound l' (callsIn_wide.2 (word_weight _ _ hcx.1 hcx.2))).mono ?_; rintro e w' ⟨he, kk, rfl⟩; rw [H8.out] at he; subst he)
          | (refine ⟨trivial, ?_⟩; gi_at_call 72; refine (CallsIn.inRound l' (callsIn_wide.2 (word_hasAll _ _ _ hcx wa))).mono ?_; rintro e w' ⟨he, rfl⟩; rw [HA.out] at he; subst he)
          | (refine ⟨trivial, ?_⟩; gi_at_call 114; refine (CallsIn.inRound l' (callsIn_wide.2 (word_meet _ _ _ hcx.1 hcx.2 wb.1 wb.2))).mono ?_; rintro e w' ⟨rfl, rfl⟩))
          have hdb := below_drewN (Below.refl V.heap.size V) kk
          have HDB := Lib.hid hdb
          obtain ⟨fn, tmps, assign, body, hy, hR⟩ := HY.out (octsOf a b pre) y (V.drewN kk) (own_below HJ.out HJV.out hdb) (HAT.out y HYY.out) (by show _ ≤ V.heap.size; omega)
          have HR := Lib.hid (round_bool hR)
          clear hR
          simp only [encO] at hy
          rw [hy]
          gi_wp2
          refine (round_in _ l' HR.out).mono ?_
          rintro e V2 ⟨bb, rfl, hk, hTR, hFA⟩
          have HK := Lib.hid hk
          have HTR := Lib.hid hTR
          have HFA := Lib.hid hFA
          clear hk hTR hFA hy hdb
          have hk2 : KeepsIn W2.heap.size (W2.heap.size + 2 + 3) V V2 := (KeepsIn.of_below HDB.out (by omega)).trans (HK.out.mono (by omega) (by omega))
          have hkd : KpOf n₀ lw mid V (V.drewN kk) := KpOf.of_below HDB.out (by omega) (by omega)
          have hkp : ∀ {A B : Nat}, W0.heap.size ≤ A → B ≤ W0.heap.size + 10 → KpOf n₀ lw mid (V.drewN kk) V2 → KpOf n₀ A B V V2 := fun h1 h2 h3 => ⟨HDB.out.mono (by omega) |>.trans h3.1, (KeepsIn.of_below HDB.out (by omega)).trans (HK.out.mono h1 h2)⟩
          cases bb
          · gi_wp2
            exact ⟨hk2, by rw [HYY.out]; exact HFA.out (by first | trivial | rfl), rfl⟩
          · gi_wp2
            refine ⟨hk2, hkp (by omega) (by omega) (HTR.out (by first | trivial | rfl)).2, ⟨?_, (HK.out.at_ _ (Nat.le_refl _) (by omega)).trans HY0.out⟩, HKP.out.trans (hkd.trans (HTR.out (by first | trivial | rfl)).2)⟩
            rw [HYY.out]
            exact (HTR.out (by first | trivial | rfl)).1
    · have h81 : (wt cx == 8) = false := by simpa using h8
      have HN := Lib.hid (HNO.out (fun h => h8 h.1))
      obtain ⟨q, hq⟩ : ∃ q, wt cx = q := ⟨_, rfl⟩
      rw [hq] at h81
      have H8 := Lib.hid hq
      clear h8 hq
      gi_wp2_with (first
          | (refine ⟨trivial, ?_⟩; gi_at_call 69; refine (CallsIn.inRound l' (callsIn_wide.2 (word_weight _ _ hcx.1 hcx.2))).mono ?_; rintro e w' ⟨he, kk, rfl⟩; rw [H8.out] at he; subst he)
          | (refine ⟨trivial, ?_⟩)
          | (refine ⟨?_, ?_⟩; focus (intro f h; simp at h; done)))
      gi_wp2_with fail
      have hdb := below_drewN (Below.refl V.heap.size V) kk
      refine ⟨KeepsIn.of_below hdb (by omega), KpOf.of_below hdb (by omega) (by omega), ⟨?_, HY0.out⟩, HKP.out.trans (KpOf.of_below hdb (by omega) (by omega))⟩
      rw [HN.out]
      exact own_below HJ.out HJV.out hdb
  case done =>
    rintro D ys V hD hS ⟨⟨hj, hy0⟩, hkp⟩ hK
    have HS := Lib.hid (octsOf_vals a b k ys (by rw [hS, msgs_all, hk]))
    have HJV := Lib.hid hj
    clear hS hj hy0 hkp hit hB4 hy4 hJ4
    gi_wp2
    refine ⟨by simp, .inl ⟨_, _, rfl, run_takeDeferred hK, ?_⟩⟩
    exact ⟨_, results_none rfl _ _ _, ⟨_, rfl⟩, .inl ⟨octsOf a b ys, HS.out, HJ.out.putObj _ HJV.out (by omega) hK rfl⟩⟩
  case stop =>
    rintro D c pre V hD hS ⟨hj, rfl⟩ hK
    have HJV := Lib.hid hj
    clear hS hj hit hB4 hy4 hJ4
    gi_wp2
    refine ⟨by simp, .inl ⟨_, _, rfl, run_takeDeferred hK, ?_⟩⟩
    exact ⟨_, results_none rfl _ _ _, ⟨_, rfl⟩, .inr ⟨_, trivial, HJx.out.putObj _ HJV.out (by omega) hK rfl⟩⟩
theorem octads_it (a b : Int) (wa : IsW a) (wb : IsW b) (k n₀ lw mid B1 B2 : Nat) (hk : k = 4096) (w : World) (hB1 : B1 < w.heap.size) (hB2 : B2 < w.heap.size) (hl1 : lw ≤ B1) (hl2 : lw ≤ B2) (hm1 : B1 < mid) (hm2 : B2 < mid) (hmw : mid ≤ w.heap.size) (hnw : n₀ ≤ w.heap.size) (hg : tab2G < n₀)
    (hc1 : w.cell? ⟨B1, 0, none⟩ = some (.int .u32 a)) (hc2 : w.cell? ⟨B2, 0, none⟩ = some (.int .u32 b)) (hT : Tab2 w) :
    SeqIt Tryz.prog 163 #[.pointer (some ⟨B1, 0, none⟩), .pointer (some ⟨B2, 0, none⟩)] (encO (a := a) (b := b)) 10 (KpOf n₀ lw mid) (fun ys => ys.map (fun x => x.val) = (octF k).filter (oC a b)) (fun _ => True) 4096 w :=
  (octads_itG a b wa wb k n₀ lw mid B1 B2 hk w hB1 hB2 hl1 hl2 hm1 hm2 hmw hnw hg hc1 hc2 hT).mono fun _ _ h => h.len
end Go.Proofs.YtmeejnkpaiinaacGreatDoor
