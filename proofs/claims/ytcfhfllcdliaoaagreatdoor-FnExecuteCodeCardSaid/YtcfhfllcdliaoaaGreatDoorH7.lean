import Derived.Test.YtcfhfllcdliaoaaGreatDoorC30
import Derived.Test.YtcfhfllcdliaoaaGreatDoorQ7
import Derived.Test.YtcfhfllcdliaoaaGreatDoorH6
import Derived.Sort.BigQuietIn
/- The iterator over the octads with places and without others, of the program. -/
namespace Go.Proofs.YtcfhfllcdliaoaaGreatDoor
open Go.RowKit Go.Shelf
attribute [local go_sem] Oper.semAt_some
set_option linter.unusedVariables false
attribute [local irreducible] octS cN octF

/-- Octads with all places of a and none of b. -/
def Oc (a b : Int) : Type := {x : Int // IsOct x ∧ oC a b x = true}
def toO (a b : Int) (x : Fin 4096) : Option (Oc a b) := if h : wt (codeOf (x.val : Nat)) = 8 ∧ oC a b (codeOf (x.val : Nat)) = true then some ⟨codeOf (x.val : Nat), ⟨⟨x.val, x.isLt, rfl, h.1⟩, h.2⟩⟩ else none
def octsOf (a b : Int) (xs : List (Fin 4096)) : List (Oc a b) := xs.filterMap (toO a b)
theorem octsOf_yes (a b : Int) (pre : List (Fin 4096)) (x : Fin 4096) (h : wt (codeOf (x.val : Nat)) = 8 ∧ oC a b (codeOf (x.val : Nat)) = true) : octsOf a b (pre ++ [x]) = octsOf a b pre ++ [⟨codeOf (x.val : Nat), ⟨⟨x.val, x.isLt, rfl, h.1⟩, h.2⟩⟩] := by
  unfold octsOf
  rw [List.filterMap_append]
  congr 1
  simp only [List.filterMap_cons, List.filterMap_nil, toO, dif_pos h]
theorem octsOf_no (a b : Int) (pre : List (Fin 4096)) (x : Fin 4096) (h : ¬ (wt (codeOf (x.val : Nat)) = 8 ∧ oC a b (codeOf (x.val : Nat)) = true)) : octsOf a b (pre ++ [x]) = octsOf a b pre := by
  unfold octsOf
  rw [List.filterMap_append]
  simp only [List.filterMap_cons, List.filterMap_nil, toO, dif_neg h, List.append_nil]
theorem octsOf_ex (a b : Int) (pre : List (Fin 4096)) (x : Fin 4096) (h : wt (codeOf (x.val : Nat)) = 8 ∧ oC a b (codeOf (x.val : Nat)) = true) : ∃ y : Oc a b, y.val = codeOf (x.val : Nat) ∧ octsOf a b (pre ++ [x]) = octsOf a b pre ++ [y] :=
  ⟨_, rfl, octsOf_yes a b pre x h⟩
theorem own_comap {β γ : Type} {B B' : Nat} {I : β → World → Prop} (h : OwnFrom B I) (hB : B ≤ B') (f : γ → β) : OwnFrom B' (fun s W => I (f s) W) :=
  fun s A C row hs hg hr => h (f s) A C row hs hg fun r e => ⟨Nat.le_trans hB (hr r e).1, (hr r e).2⟩
theorem octsOf_len (a b : Int) (pre : List (Fin 4096)) : (octsOf a b pre).length ≤ pre.length := List.length_filterMap_le _ _
theorem octsOf_vals (a b : Int) (k : Nat) : ∀ xs : List (Fin 4096), xs.map (fun x => x.val) = List.range k → (octsOf a b xs).map (fun x => x.val) = (octF k).filter (oC a b) := by
  induction k with
  | zero =>
    intro xs h
    obtain rfl : xs = [] := by simpa using h
    rw [octF_zero]
    rfl
  | succ k ih =>
    intro xs h
    rw [List.range_succ] at h
    rcases List.eq_nil_or_concat xs with rfl | ⟨L, x, rfl⟩
    · simp at h
    rw [List.concat_eq_append, List.map_append] at h
    have h2 := List.append_inj' h rfl
    have hx : x.val = k := by simpa using h2.2
    rw [List.concat_eq_append]
    rw [octF_succ]
    by_cases h8 : wt (codeOf (x.val : Nat)) = 8
    · rw [if_pos (by rw [← hx]; exact h8), filter_snoc]
      by_cases hc : oC a b (codeOf (x.val : Nat)) = true
      · rw [octsOf_yes a b L x ⟨h8, hc⟩, List.map_append, ih L h2.1, if_pos (by rw [← hx]; exact hc), ← hx]
        rfl
      · rw [octsOf_no a b L x (fun h => hc h.2), ih L h2.1, if_neg (by rw [← hx]; exact hc)]
    · rw [octsOf_no a b L x (fun h => h8 h.1), ih L h2.1, if_neg (by rw [← hx]; exact h8)]
/-- What came ahead of an octad, told. -/
def OcAt (a b : Int) (pre : List (Oc a b)) (x : Oc a b) : Prop := ∃ j, j ≤ 4096 ∧ (pre ++ [x]).map (fun x => x.val) = (octF j).filter (oC a b)
theorem OcAt.len {a b : Int} {pre : List (Oc a b)} {x : Oc a b} (h : OcAt a b pre x) : pre.length < 4096 := by
  obtain ⟨j, hj, e⟩ := h
  have h1 := congrArg List.length e
  have h2 := List.length_filter_le (oC a b) (octF j)
  have h3 := octF_len j
  rw [List.length_map, List.length_append, List.length_singleton] at h1
  omega
theorem ocAt_of (a b : Int) (pre : List (Fin 4096)) (x : Fin 4096) (hl : pre.length < 4095 + 1 - 0) (h : (pre ++ [x]).map (fun x => x.val) = List.range' 0 (pre.length + 1)) (y : Oc a b) (hy : octsOf a b (pre ++ [x]) = octsOf a b pre ++ [y]) : OcAt a b (octsOf a b pre) y :=
  ⟨pre.length + 1, by omega, by rw [← hy]; exact octsOf_vals a b (pre.length + 1) _ (by rw [h, List.range_eq_range'])⟩
theorem octF_pre (j : Nat) (hj : j ≤ 4096) : ∀ k, k + j = 4096 → (octF j).Sublist (octF 4096)
  | 0, e => by rw [show j = 4096 by omega]; exact List.Sublist.refl _
  | k + 1, e => by
    have ih := octF_pre (j + 1) (by omega) k (by omega)
    refine List.Sublist.trans ?_ ih
    rw [octF_succ]
    split
    · exact List.sublist_append_left _ _
    · exact List.Sublist.refl _
theorem OcAt.sub {a b : Int} {pre : List (Oc a b)} {x : Oc a b} (h : OcAt a b pre x) (k : Nat) (hk : k = 4096) : ((pre ++ [x]).map (fun x => x.val)).Sublist ((octF k).filter (oC a b)) := by
  obtain ⟨j, hj, e⟩ := h
  rw [e, hk]
  exact (octF_pre j hj (4096 - j) (by omega)).filter _
def encO {a b : Int} (x : Oc a b) : Array Value := #[.int .u32 x.val]
theorem word_hasAll (a b : Int) (w : World) (ha : IsW a) (hb : IsW b) :
    Calls Tryz.prog 233 #[.int .u32 a, .int .u32 b] w fun e w' => e = .returned (.bool (andI a b == b)) ∧ w = w' := by
  go_enter Tryz.func233, Tryz.ntmps233
  go_wp2_with (go_at_call 75; refine (word_meet a b _ ha.1 ha.2 hb.1 hb.2).mono ?_; rintro e w' ⟨rfl, rfl⟩)
  go_ret
  exact ⟨rfl, rfl⟩
/-- What 'octadsWith' leaves in memory: two boxes. -/
def owW (a b : Int) (w : World) : World := (w.alloc (.cells #[.int .u32 a] 55)).alloc (.cells #[.int .u32 b] 55)
theorem owW_size (a b : Int) (w : World) : (owW a b w).heap.size = w.heap.size + 2 := by simp [owW]
theorem owW_below (a b : Int) (w : World) : Below w.heap.size w (owW a b w) := ((Below.refl _ w).alloc (Nat.le_refl _) _).alloc (by simp) _
theorem owW_cells (a b : Int) (w : World) : (owW a b w).cell? ⟨w.heap.size, 0, none⟩ = some (.int .u32 a) ∧ (owW a b w).cell? ⟨w.heap.size + 1, 0, none⟩ = some (.int .u32 b) := by
  refine ⟨((Boxed.new w 55 (.int .u32 a)).alloc _).cell, ?_⟩
  have := Boxed.new (w.alloc (.cells #[.int .u32 a] 55)) 55 (.int .u32 b)
  rw [World.size_alloc] at this
  exact this.cell
theorem octadsWith_calls (a b : Int) (w : World) :
    Calls Tryz.prog 211 #[.int .u32 a, .int .u32 b] w fun e w' => e = .returned (.func (.func 232) #[] #[.pointer (some ⟨w.heap.size, 0, none⟩), .pointer (some ⟨w.heap.size + 1, 0, none⟩)]) ∧ w' = owW a b w := by
  go_enter Tryz.func211, Tryz.ntmps211
  go_wp2
  go_ret
  exact ⟨rfl, rfl⟩
theorem codeAll_it (n₀ lw mid : Nat) (w W : World) (hb : Below (cwW 0 4095 w).heap.size (cwW 0 4095 w) W) (hn : n₀ ≤ w.heap.size) (hg : tab2G < n₀) (hl : lw ≤ w.heap.size) (hm : w.heap.size + 4 ≤ mid) (hmW : mid ≤ W.heap.size) (hT : Tab2 w) :
    SeqItG Tryz.prog 152 #[.pointer (some ⟨w.heap.size + 2, 0, none⟩), .pointer (some ⟨w.heap.size + 3, 0, none⟩)] encW 3 (KpOf n₀ lw mid) (fun ys => ys.map (fun x => x.val) = msgs 0 4095) (fun _ => True) (MsgAt 0 4095) W :=
  codeWords_itG 0 4095 n₀ lw mid (by omega) (by omega) w W hb hn hg hl hm hmW hT
set_option maxRecDepth 100000 in
set_option maxHeartbeats 4000000 in
theorem octads_itG (a b : Int) (wa : IsW a) (wb : IsW b) (k n₀ lw mid B1 B2 : Nat) (hk : k = 4096) (w : World) (hB1 : B1 < w.heap.size) (hB2 : B2 < w.heap.size) (hl1 : lw ≤ B1) (hl2 : lw ≤ B2) (hm1 : B1 < mid) (hm2 : B2 < mid) (hmw : mid ≤ w.heap.size) (hnw : n₀ ≤ w.heap.size) (hg : tab2G < n₀)
    (hc1 : w.cell? ⟨B1, 0, none⟩ = some (.int .u32 a)) (hc2 : w.cell? ⟨B2, 0, none⟩ = some (.int .u32 b)) (hT : Tab2 w) :
    SeqItG Tryz.prog 232 #[.pointer (some ⟨B1, 0, none⟩), .pointer (some ⟨B2, 0, none⟩)] (encO (a := a) (b := b)) 10 (KpOf n₀ lw mid) (fun ys => ys.map (fun x => x.val) = (octF k).filter (oC a b)) (fun _ => True) (OcAt a b) w := by
  intro l J Jx W0 hW hl hJ hJx hY h0
  have hc1' : W0.cell? ⟨B1, 0, none⟩ = some (.int .u32 a) := (hW.cell (p := ⟨B1, 0, none⟩) hB1).trans hc1
  have hc2' : W0.cell? ⟨B2, 0, none⟩ = some (.int .u32 b) := (hW.cell (p := ⟨B2, 0, none⟩) hB2).trans hc2
  have hs0 := hW.size
  have hT0 : Tab2 W0 := hT.below hW (by have := hT.lt; omega)
  have HY := Lib.hid hY
  have HJ := Lib.hid hJ
  have HJx := Lib.hid hJx
  have H0 := Lib.hid h0
  clear hc1 hc2 hT hY hJ hJx h0 hW
  refine (callsIn_wide (n := 6)).1 (callsIn_of_wp_marks Tryz.func232 rfl trivial ?_ rfl)
  simp only [Tryz.ntmps232, List.size_toArray, List.length_cons, List.length_nil, Nat.reduceAdd, Nat.reduceSub, Array.replicate_succ, Array.replicate_zero, List.push_toArray, List.append_toArray, List.nil_append, List.cons_append]
  gi_wp2_with (refine ⟨trivial, ?_⟩; gi_at_call 68; refine (callsIn_wide.2 (codeWords_calls _ _ _)).mono ?_; rintro e w' ⟨rfl, rfl⟩)
  have hsB : (W0.alloc (.cells #[.func (.yield l) #[] #[]] 123)).heap.size = W0.heap.size + 1 := by simp
  have hBA : Below W0.heap.size W0 (W0.alloc (.cells #[.func (.yield l) #[] #[]] 123)) := (Below.refl _ W0).alloc (Nat.le_refl _) _
  have hyb : (W0.alloc (.cells #[.func (.yield l) #[] #[]] 123)).heap[W0.heap.size]? = some (.cells #[.func (.yield l) #[] #[]] 123 (0, 0)) := World.alloc_heap_new _ _
  have hTA : Tab2 (W0.alloc (.cells #[.func (.yield l) #[] #[]] 123)) := hT0.below hBA hT0.lt
  have hJ0 := HJ.out.alloc (.cells #[.func (.yield l) #[] #[]] 123) H0.out
  generalize W0.alloc (.cells #[.func (.yield l) #[] #[]] 123) = V0 at *
  have hs4 := cwW_size 0 4095 V0
  have hcb := cwW_below 0 4095 V0
  have hit := codeAll_it n₀ (W0.heap.size + 1) (W0.heap.size + 5) V0 (cwW 0 4095 V0) (Below.refl _ _) (by omega) hg (by omega) (by omega) (by omega) hTA
  rw [hsB] at hit hs4
  have hy4 := (hcb.block W0.heap.size (by omega)).trans hyb
  have hJ4 := own_below HJ.out hJ0 hcb
  have hB4 : Below W0.heap.size W0 (cwW 0 4095 V0) := hBA.trans (hcb.mono hBA.size)
  clear hcb hyb hBA hTA hJ0
  generalize cwW 0 4095 V0 = W2 at *
  refine wp_range_it (gf := 152) (lb := #[.pointer (some ⟨W0.heap.size + 1 + 2, 0, none⟩), .pointer (some ⟨W0.heap.size + 1 + 3, 0, none⟩)]) rfl (enters_of Tryz.func152 (by kernel_rfl) rfl) hit (fun h k => KpOf.trans h k) (fun V j o hj hjl => KpOf.put V j o (by omega) (by omega) hjl) (Below.refl _ _) (fun _ => rfl)
    (fun pre V => (J (octsOf a b pre) V ∧ V.heap[W0.heap.size]? = some (.cells #[.func (.yield l) #[] #[]] 123 (0, 0))) ∧ KpOf n₀ lw mid W0 V)
    (fun c pre V => Jx (octsOf a b pre) V ∧ c = .ret)
    (((own_comap HJ.out (by omega) (octsOf a b)).and (ownFrom_at (fun _ => .cells #[.func (.yield l) #[] #[]] 123 (0, 0)) (by omega))).and (KpOf.own (by omega) (by omega) (by omega) (by omega)))
    (fun c => (own_comap HJx.out (by omega) (octsOf a b)).and (ownFrom_pure _ (fun _ => c = .ret)))
    ⟨⟨hJ4, hy4⟩, KpOf.of_below hB4 (by omega) (by omega)⟩
    (fun x => { tmps := #[.func (.yield l) #[] #[], .pointer (some ⟨B1, 0, none⟩), .pointer (some ⟨B2, 0, none⟩), .pointer (some ⟨W0.heap.size, 0, none⟩), .int .u32 (codeOf (x.val : Nat)), .func (.func 152) #[] #[.pointer (some ⟨W0.heap.size + 1 + 2, 0, none⟩), .pointer (some ⟨W0.heap.size + 1 + 3, 0, none⟩)], .int .u32 (codeOf (x.val : Nat)), undef, undef, undef, undef, undef, undef, undef, undef, undef, undef, undef, undef, undef, undef, undef, undef, undef, undef, undef, undef], defers := [] }) ?assign ?body ?done ?stop
  case assign =>
    intro l' x V K' hK
    unfold encW
    gi_wp2
    exact hK
  case body =>
    rintro l' pre x V ⟨⟨hj, hy0⟩, hkp⟩ ⟨hlen, hmp⟩ hsz
    have HAT := Lib.hid (ocAt_of a b pre x hlen hmp)
    clear hmp
    have hcy : V.cell? ⟨W0.heap.size, 0, none⟩ = some (.func (.yield l) #[] #[]) := (Boxed.cell (t := 123) hy0)
    have hca : V.cell? ⟨B1, 0, none⟩ = some (.int .u32 a) := (hkp.cell (p := ⟨B1, 0, none⟩) hl1 hm1).trans hc1'
    have hcb : V.cell? ⟨B2, 0, none⟩ = some (.int .u32 b) := (hkp.cell (p := ⟨B2, 0, none⟩) hl2 hm2).trans hc2'
    have hcx : IsW (codeOf (x.val : Nat)) := ⟨(codeOf_range _).1, (codeOf_range _).2⟩
    have HYES := Lib.hid (fun h => octsOf_ex a b pre x h)
    have HNO := Lib.hid (fun h => octsOf_no a b pre x h)
    have HJV := Lib.hid hj
    have HY0 := Lib.hid hy0
    have HKP := Lib.hid hkp
    have hpl := octsOf_len a b pre
    have HXO := Lib.hid (show wt (codeOf (x.val : Nat)) = 8 → IsOct (codeOf (x.val : Nat)) from fun h => ⟨x.val, x.isLt, rfl, h⟩)
    clear hj hy0 hkp hit hB4 hy4 hJ4
    generalize codeOf (x.val : Nat) = cx at *
    by_cases h8 : wt cx = 8
    · have H8 := Lib.hid h8
      cases hA : andI cx a == a
      · have HA := Lib.hid hA
        have HN := Lib.hid (HNO.out (fun h => by have := h.2; simp [oC, hA] at this))
        clear h8 hA
        gi_wp2_with (first
          | (refine ⟨trivial, ?_⟩; gi_at_call 44; refine (CallsIn.inRound l' (callsIn_wide.2 (word_weight _ _ hcx.1 hcx.2))).mono ?_; rintro e w' ⟨he, kk, rfl⟩; rw [H8.out] at he; subst he)
          | (refine ⟨trivial, ?_⟩; gi_at_call 233; refine (CallsIn.inRound l' (callsIn_wide.2 (word_hasAll _ _ _ hcx wa))).mono ?_; rintro e w' ⟨he, rfl⟩; rw [HA.out] at he; subst he)
          | (refine ⟨trivial, ?_⟩)
          | (refine ⟨?_, ?_⟩; focus (intro f h; simp at h; done)))
        gi_wp2_with fail
        have hdb := below_drewN (Below.refl V.heap.size V) kk
        refine ⟨KeepsIn.of_below hdb (by omega), KpOf.of_below hdb (by omega) (by omega), ⟨?_, HY0.out⟩, HKP.out.trans (KpOf.of_below hdb (by omega) (by omega))⟩
        rw [HN.out]
        exact own_below HJ.out HJV.out hdb
      · cases hB : andI cx b == 0
        · have HA := Lib.hid hA
          have HN := Lib.hid (HNO.out (fun h => by have := h.2; simp [oC, hB] at this))
          clear h8 hA
          gi_wp2_with (first
          | (refine ⟨trivial, ?_⟩; gi_at_call 44; refine (CallsIn.inRound l' (callsIn_wide.2 (word_weight _ _ hcx.1 hcx.2))).mono ?_; rintro e w' ⟨he, kk, rfl⟩; rw [H8.out] at he; subst he)
          | (refine ⟨trivial, ?_⟩; gi_at_call 233; refine (CallsIn.inRound l' (callsIn_wide.2 (word_hasAll _ _ _ hcx wa))).mono ?_; rintro e w' ⟨he, rfl⟩; rw [HA.out] at he; subst he)
          | (refine ⟨trivial, ?_⟩; gi_at_call 75; refine (CallsIn.inRound l' (callsIn_wide.2 (word_meet _ _ _ hcx.1 hcx.2 wb.1 wb.2))).mono ?_; rintro e w' ⟨rfl, rfl⟩)
          | (refine ⟨trivial, ?_⟩)
          | (refine ⟨?_, ?_⟩; focus (intro f h; simp at h; done)))
          gi_wp2_with fail
          have hdb := below_drewN (Below.refl V.heap.size V) kk
          refine ⟨KeepsIn.of_below hdb (by omega), KpOf.of_below hdb (by omega) (by omega), ⟨?_, HY0.out⟩, HKP.out.trans (KpOf.of_below hdb (by omega) (by omega))⟩
          rw [HN.out]
          exact own_below HJ.out HJV.out hdb
        · have HA := Lib.hid hA
          obtain ⟨y, rfl, hyy⟩ := HYES.out ⟨h8, by simp [oC, hA, hB]⟩
          have HYY := Lib.hid hyy
          clear h8 hA hyy
          gi_wp2_with (first
          | (refine ⟨trivial, ?_⟩; gi_at_call 44; refine (CallsIn.inRound l' (callsIn_wide.2 (word_weight _ _ hcx.1 hcx.2))).mono ?_; rintro e w' ⟨he, kk, rfl⟩; rw [H8.out] at he; subst he)
          | (refine ⟨trivial, ?_⟩; gi_at_call 233; refine (CallsIn.inRound l' (callsIn_wide.2 (word_hasAll _ _ _ hcx wa))).mono ?_; rintro e w' ⟨he, rfl⟩; rw [HA.out] at he; subst he)
          | (refine ⟨trivial, ?_⟩; gi_at_call 75; refine (CallsIn.inRound l' (callsIn_wide.2 (word_meet _ _ _ hcx.1 hcx.2 wb.1 wb.2))).mono ?_; rintro e w' ⟨rfl, rfl⟩))
          have hdb := below_drewN (Below.refl V.heap.size V) kk
          have HDB := Lib.hid hdb
          obtain ⟨fn, tmps, assign, body, hy, hR⟩ := HY.out (octsOf a b pre) y (V.drewN kk) (own_below HJ.out HJV.out hdb) (HAT.out y HYY.out) (by show _ ≤ V.heap.size; omega)
          have HR := Lib.hid (round_bool hR)
          clear hR
          simp only [encO] at hy
          rw [hy]
          gi_wp2
          refine (round_in _ l' HR.out).mono ?_
          rintro e V2 ⟨bb, rfl, hk, hTR, hFA⟩
          have HK := Lib.hid hk
          have HTR := Lib.hid hTR
          have HFA := Lib.hid hFA
          clear hk hTR hFA hy hdb
          have hk2 : KeepsIn W2.heap.size (W2.heap.size + 2 + 3) V V2 := (KeepsIn.of_below HDB.out (by omega)).trans (HK.out.mono (by omega) (by omega))
          have hkd : KpOf n₀ lw mid V (V.drewN kk) := KpOf.of_below HDB.out (by omega) (by omega)
          have hkp : ∀ {A B : Nat}, W0.heap.size ≤ A → B ≤ W0.heap.size + 10 → KpOf n₀ lw mid (V.drewN kk) V2 → KpOf n₀ A B V V2 := fun h1 h2 h3 => ⟨HDB.out.mono (by omega) |>.trans h3.1, (KeepsIn.of_below HDB.out (by omega)).trans (HK.out.mono h1 h2)⟩
          cases bb
          · gi_wp2
            exact ⟨hk2, by rw [HYY.out]; exact HFA.out (by first | trivial | rfl), rfl⟩
          · gi_wp2
            refine ⟨hk2, hkp (by omega) (by omega) (HTR.out (by first | trivial | rfl)).2, ⟨?_, (HK.out.at_ _ (Nat.le_refl _) (by omega)).trans HY0.out⟩, HKP.out.trans (hkd.trans (HTR.out (by first | trivial | rfl)).2)⟩
            rw [HYY.out]
            exact (HTR.out (by first | trivial | rfl)).1
    · have h81 : (wt cx == 8) = false := by simpa using h8
      have HN := Lib.hid (HNO.out (fun h => h8 h.1))
      obtain ⟨q, hq⟩ : ∃ q, wt cx = q := ⟨_, rfl⟩
      rw [hq] at h81
      have H8 := Lib.hid hq
      clear h8 hq
      gi_wp2_with (first
          | (refine ⟨trivial, ?_⟩; gi_at_call 44; refine (CallsIn.inRound l' (callsIn_wide.2 (word_weight _ _ hcx.1 hcx.2))).mono ?_; rintro e w' ⟨he, kk, rfl⟩; rw [H8.out] at he; subst he)
          | (refine ⟨trivial, ?_⟩)
          | (refine ⟨?_, ?_⟩; focus (intro f h; simp at h; done)))
      gi_wp2_with fail
      have hdb := below_drewN (Below.refl V.heap.size V) kk
      refine ⟨KeepsIn.of_below hdb (by omega), KpOf.of_below hdb (by omega) (by omega), ⟨?_, HY0.out⟩, HKP.out.trans (KpOf.of_below hdb (by omega) (by omega))⟩
      rw [HN.out]
      exact own_below HJ.out HJV.out hdb
  case done =>
    rintro D ys V hD hS ⟨⟨hj, hy0⟩, hkp⟩ hK
    have HS := Lib.hid (octsOf_vals a b k ys (by rw [hS, msgs_all, hk]))
    have HJV := Lib.hid hj
    clear hS hj hy0 hkp hit hB4 hy4 hJ4
    gi_wp2
    refine ⟨by simp, .inl ⟨_, _, rfl, run_takeDeferred hK, ?_⟩⟩
    exact ⟨_, results_none rfl _ _ _, ⟨_, rfl⟩, .inl ⟨octsOf a b ys, HS.out, HJ.out.putObj _ HJV.out (by omega) hK rfl⟩⟩
  case stop =>
    rintro D c pre V hD hS ⟨hj, rfl⟩ hK
    have HJV := Lib.hid hj
    clear hS hj hit hB4 hy4 hJ4
    gi_wp2
    refine ⟨by simp, .inl ⟨_, _, rfl, run_takeDeferred hK, ?_⟩⟩
    exact ⟨_, results_none rfl _ _ _, ⟨_, rfl⟩, .inr ⟨_, trivial, HJx.out.putObj _ HJV.out (by omega) hK rfl⟩⟩
theorem octads_it (a b : Int) (wa : IsW a) (wb : IsW b) (k n₀ lw mid B1 B2 : Nat) (hk : k = 4096) (w : World) (hB1 : B1 < w.heap.size) (hB2 : B2 < w.heap.size) (hl1 : lw ≤ B1) (hl2 : lw ≤ B2) (hm1 : B1 < mid) (hm2 : B2 < mid) (hmw : mid ≤ w.heap.size) (hnw : n₀ ≤ w.heap.size) (hg : tab2G < n₀)
    (hc1 : w.cell? ⟨B1, 0, none⟩ = some (.int .u32 a)) (hc2 : w.cell? ⟨B2, 0, none⟩ = some (.int .u32 b)) (hT : Tab2 w) :
    SeqIt Tryz.prog 232 #[.pointer (some ⟨B1, 0, none⟩), .pointer (some ⟨B2, 0, none⟩)] (encO (a := a) (b := b)) 10 (KpOf n₀ lw mid) (fun ys => ys.map (fun x => x.val) = (octF k).filter (oC a b)) (fun _ => True) 4096 w :=
  (octads_itG a b wa wb k n₀ lw mid B1 B2 hk w hB1 hB2 hl1 hl2 hm1 hm2 hmw hnw hg hc1 hc2 hT).mono fun _ _ h => h.len
end Go.Proofs.YtcfhfllcdliaoaaGreatDoor
/- Octads of the program: counted, met, dodecads. -/
namespace Go.Proofs.YtcfhfllcdliaoaaGreatDoor
open Go.RowKit Go.Shelf
attribute [local go_sem] Oper.semAt_some
set_option linter.unusedVariables false
attribute [local irreducible] octS cN octF

theorem set_fin {V X : World} {p : Addr} {u : Value} {n₀ : Nat} (hn : n₀ ≤ p.block) (hX : X.heap = (V.setCell p u).heap) (hX2 : X.os = V.os ∧ X.tape = V.tape ∧ X.output = V.output) :
    Below n₀ V X ∧ ∀ q, q ≠ p.block → X.heap[q]? = V.heap[q]? := by
  have b0 : Below n₀ V (V.setCell p u) := (Below.refl _ V).setCell hn _
  exact ⟨⟨hX2.1, hX2.2.1, hX2.2.2, by rw [hX]; exact b0.size, fun q hq => by rw [hX]; exact b0.block q hq⟩, fun q hq => by rw [hX]; exact Below.heap_setCell V p _ q hq⟩
theorem set_kp {V X : World} {p : Addr} {u : Value} {n₀ lw mid B C : Nat} (hn : n₀ ≤ p.block) (h1 : p.block < lw) (h2 : p.block < B) (hX : X.heap = (V.setCell p u).heap) (hX2 : X.os = V.os ∧ X.tape = V.tape ∧ X.output = V.output) :
    KeepsIn B C V X ∧ KpOf n₀ lw mid V X := by
  obtain ⟨b, hk⟩ := set_fin hn hX hX2
  exact ⟨⟨b.size, fun q h3 h4 => hk q (by omega)⟩, b, ⟨b.size, fun q h3 h4 => hk q (by omega)⟩⟩
theorem set_box {V X : World} {g : Nat} {u v : Value} {t : TypeId} (h : V.heap[g]? = some (.cells #[u] t (0, 0))) (hX : X.heap = (V.setCell ⟨g, 0, none⟩ v).heap) : X.heap[g]? = some (.cells #[v] t (0, 0)) := by
  rw [hX]
  have := heap_setCell_same V g 0 #[u] t v h
  simpa using this
theorem own_arr9 {w : World} {B g : Nat} (xs : List Int) (hl : xs.length = 9) (hg : w.heap[g]? = some (.cells (vals .i64 xs).toArray 3 (0, 0))) (hB : B ≤ g) : Own w B (.slice (some ⟨g, 0, none⟩) 9 9) xs :=
  ⟨by simp [vals_len, hl], .inr ⟨g, 9, _, by rw [hl], hB, hg, by simp [hl], by unfold maxLen; omega, by simp [vals_len, hl], by
    have : (vals .i64 xs).length ≤ xs.length * 1 := by rw [vals_len]; omega
    simp [List.take_of_length_le, vals_len]⟩⟩
theorem filter_00 (L : List Int) : L.filter (oC 0 0) = L := by
  rw [List.filter_eq_self]
  intro x _
  simp [oC, andI]
theorem octs_it (a b : Int) (wa : IsW a) (wb : IsW b) (k n₀ : Nat) (hk : k = 4096) (w : World) (hn : n₀ ≤ w.heap.size) (hg : tab2G < n₀) (hT : Tab2 w) :
    SeqIt Tryz.prog 232 #[.pointer (some ⟨w.heap.size, 0, none⟩), .pointer (some ⟨w.heap.size + 1, 0, none⟩)] (encO (a := a) (b := b)) 10 (KpOf n₀ w.heap.size (w.heap.size + 2)) (fun ys => ys.map (fun x => x.val) = (octF k).filter (oC a b)) (fun _ => True) 4096 (owW a b w) := by
  have hs := owW_size a b w
  have hc := owW_cells a b w
  have hb := owW_below a b w
  have hT2 := hT.below hb hT.lt
  generalize owW a b w = W at *
  exact octads_it a b wa wb k n₀ w.heap.size (w.heap.size + 2) w.heap.size (w.heap.size + 1) hk W (by omega) (by omega) (Nat.le_refl _) (by omega) (by omega) (by omega) (by omega) (by omega) hg hc.1 hc.2 hT2
theorem meets_fin {w V : World} {j : Nat} {cs Z : List Int} {y : Int} {bx by_ : Obj} (h0 : V.heap[w.heap.size]? = some bx) (h1 : V.heap[w.heap.size + 1]? = some (.cells (vals .i64 cs).toArray 3 (0, 0))) (h2 : V.heap[w.heap.size + 2]? = some by_) (hB : Below w.heap.size w V) (hZ : cs.set j y = Z) (lw mid B K : Nat) (hlw : w.heap.size + 1 < lw) (hB0 : w.heap.size + 1 < B) (X : World)
    (hX : X.heap = (V.setCell ⟨w.heap.size + 1, j, none⟩ (.int .i64 y)).heap) (hX2 : X.os = V.os ∧ X.tape = V.tape ∧ X.output = V.output) :
    KeepsIn B (B + 2 + K) V X ∧ KpOf w.heap.size lw mid V X ∧ (((X.heap[w.heap.size]? = some bx ∧ X.heap[w.heap.size + 1]? = some (.cells (vals .i64 Z).toArray 3 (0, 0))) ∧ X.heap[w.heap.size + 2]? = some by_) ∧ Below w.heap.size w X) := by
  obtain ⟨b, hk⟩ := set_fin (n₀ := w.heap.size) (p := ⟨w.heap.size + 1, j, none⟩) (show w.heap.size ≤ w.heap.size + 1 by omega) hX hX2
  refine ⟨⟨b.size, fun q h1 h2 => hk q (by show q ≠ w.heap.size + 1; omega)⟩, ⟨b, ⟨b.size, fun q h1 h2 => hk q (by show q ≠ w.heap.size + 1; omega)⟩⟩, ⟨⟨⟨(hk _ (by show w.heap.size ≠ w.heap.size + 1; omega)).trans h0, ?_⟩, (hk _ (by show w.heap.size + 2 ≠ w.heap.size + 1; omega)).trans h2⟩, hB.trans b⟩⟩
  rw [hX, ← hZ]; exact arr_set cs y h1
set_option maxRecDepth 100000 in
set_option maxHeartbeats 600000 in
theorem meets_in (n : Int) (hn : IsW n) (h8 : wt n ≤ 8) (k : Nat) (hk : k = 4096) (w : World) (hT : Tab2 w) :
    CallsIn Fence.wide 6 Tryz.prog 191 #[.int .u32 n] w fun e w' => ∃ v, e = .returned v ∧ Own w' w.heap.size v (cnt9 n octS) ∧ Below w.heap.size w w' := by
  have HM := mk9
  refine callsIn_of_wp_marks Tryz.func191 rfl trivial ?_ rfl
  simp only [Tryz.ntmps191, List.size_toArray, List.length_cons, List.length_nil, Nat.reduceAdd, Nat.reduceSub, Array.replicate_succ, Array.replicate_zero, List.push_toArray, List.append_toArray, List.nil_append, List.cons_append]
  gi_wp2_with (refine ⟨trivial, ?_⟩; gi_at_call 211; refine (callsIn_wide.2 (octadsWith_calls _ _ _)).mono ?_; rintro e w' ⟨rfl, rfl⟩)
  have hsz : (((w.alloc (.cells #[.int .u32 n] 55)).alloc (.cells z9 3)).alloc (.cells #[.slice (some ⟨w.heap.size + 1, 0, none⟩) 9 9] 61)).heap.size = w.heap.size + 3 := by simp
  have hb2 : Below w.heap.size w (((w.alloc (.cells #[.int .u32 n] 55)).alloc (.cells z9 3)).alloc (.cells #[.slice (some ⟨w.heap.size + 1, 0, none⟩) 9 9] 61)) := (((Below.refl _ w).alloc (Nat.le_refl _) _).alloc (by simp) _).alloc (by simp; omega) _
  have hX : (((w.alloc (.cells #[.int .u32 n] 55)).alloc (.cells z9 3)).alloc (.cells #[.slice (some ⟨w.heap.size + 1, 0, none⟩) 9 9] 61)).heap[w.heap.size]? = some (.cells #[.int .u32 n] 55 (0, 0)) :=
    (Below.heap_alloc _ _ w.heap.size (by simp; omega)).trans ((Below.heap_alloc _ _ w.heap.size (by simp)).trans (World.alloc_heap_new w _))
  have hA : (((w.alloc (.cells #[.int .u32 n] 55)).alloc (.cells z9 3)).alloc (.cells #[.slice (some ⟨w.heap.size + 1, 0, none⟩) 9 9] 61)).heap[w.heap.size + 1]? = some (.cells z9 3 (0, 0)) := by
    refine (Below.heap_alloc _ _ (w.heap.size + 1) (by simp)).trans ?_
    have := World.alloc_heap_new (w.alloc (.cells #[.int .u32 n] 55)) (.cells z9 3)
    rwa [World.size_alloc] at this
  have hBx : (((w.alloc (.cells #[.int .u32 n] 55)).alloc (.cells z9 3)).alloc (.cells #[.slice (some ⟨w.heap.size + 1, 0, none⟩) 9 9] 61)).heap[w.heap.size + 2]? = some (.cells #[.slice (some ⟨w.heap.size + 1, 0, none⟩) 9 9] 61 (0, 0)) := by
    have := World.alloc_heap_new ((w.alloc (.cells #[.int .u32 n] 55)).alloc (.cells z9 3)) (.cells #[.slice (some ⟨w.heap.size + 1, 0, none⟩) 9 9] 61)
    rwa [World.size_alloc, World.size_alloc] at this
  generalize ((w.alloc (.cells #[.int .u32 n] 55)).alloc (.cells z9 3)).alloc (.cells #[.slice (some ⟨w.heap.size + 1, 0, none⟩) 9 9] 61) = w2 at *
  have hT2 : Tab2 w2 := hT.below hb2 hT.lt
  have hs4 := owW_size 0 0 w2
  have hcb := owW_below 0 0 w2
  have w00 : IsW 0 := ⟨by omega, by omega⟩
  have hit := octs_it 0 0 w00 w00 k w.heap.size hk w2 (by omega) hT.lt hT2
  rw [hsz] at hit hs4
  have hX4 := (hcb.block w.heap.size (by omega)).trans hX
  have hA4 : (owW 0 0 w2).heap[w.heap.size + 1]? = some (.cells (vals .i64 (cnt9 n (([] : List (Oc 0 0)).map fun x => x.val))).toArray 3 (0, 0)) := (hcb.block (w.heap.size + 1) (by omega)).trans hA
  have hE4 := (hcb.block (w.heap.size + 2) (by omega)).trans hBx
  have hB4 : Below w.heap.size w (owW 0 0 w2) := hb2.trans (hcb.mono hb2.size)
  clear hX hb2 hcb hA hBx
  generalize owW 0 0 w2 = w4 at *
  refine wp_range_it (gf := 232) (lb := #[.pointer (some ⟨w.heap.size + 1 + 1 + 1, 0, none⟩), .pointer (some ⟨w.heap.size + 1 + 1 + 1 + 1, 0, none⟩)]) rfl (enters_of Tryz.func232 (by kernel_rfl) rfl) hit (fun h k => KpOf.trans h k) (fun V j o hj hjl => KpOf.put V j o (by omega) (by omega) hjl) (Below.refl _ _) (fun _ => rfl)
    (fun (pre : List (Oc 0 0)) V => ((V.heap[w.heap.size]? = some (.cells #[.int .u32 n] 55 (0, 0)) ∧ V.heap[w.heap.size + 1]? = some (.cells (vals .i64 (cnt9 n (pre.map fun x => x.val))).toArray 3 (0, 0))) ∧ V.heap[w.heap.size + 2]? = some (.cells #[.slice (some ⟨w.heap.size + 1, 0, none⟩) 9 9] 61 (0, 0))) ∧ Below w.heap.size w V)
    (fun _ _ _ => False)
    ((((ownFrom_at _ (by omega)).and (ownFrom_at (fun (pre : List (Oc 0 0)) => .cells (vals .i64 (cnt9 n (pre.map fun x => x.val))).toArray 3 (0, 0)) (by omega))).and (ownFrom_at _ (by omega))).and (ownFrom_below (Nat.le_refl _) (by omega)))
    (fun _ _ _ _ _ hs _ _ => hs)
    ⟨⟨⟨hX4, hA4⟩, hE4⟩, hB4⟩
    (fun x => { tmps := #[.int .u32 n, .pointer (some ⟨w.heap.size, 0, none⟩), .slice none 0 0, .pointer (some ⟨w.heap.size + 1 + 1, 0, none⟩), .int .u32 x.val, .slice (some ⟨w.heap.size + 1, 0, none⟩) 9 9, .func (.func 232) #[] #[.pointer (some ⟨w.heap.size + 1 + 1 + 1, 0, none⟩), .pointer (some ⟨w.heap.size + 1 + 1 + 1 + 1, 0, none⟩)], .int .u32 x.val, undef, undef, undef, undef, undef, undef, undef, undef, undef, undef], defers := [] }) ?assign ?body ?done ?stop
  case assign =>
    intro l x V K hK
    unfold encO
    gi_wp2
    exact hK
  case body =>
    rintro l pre x V ⟨⟨⟨h1, h2⟩, h3⟩, hB⟩ hlen hsK
    have hmx : Tryz.prog.follows .mixedOrders = true := by kernel_rfl
    have hd : 1 ≤ 6 - 1 - 1 := by omega
    have hx := x.property.1
    have wx : IsW x.val := hx.rng
    have hle := wt_and_le x.val n hx.rng.1 hn.1
    have hnn := wt_range (andI x.val n)
    obtain ⟨j, hj⟩ := Int.eq_ofNat_of_zero_le hnn.1
    have hj9 : j < 9 := by omega
    have hS : (cnt9 n (pre.map fun x => x.val)).set j ((cnt9 n (pre.map fun x => x.val)).getD j 0 + 1) = cnt9 n ((pre ++ [x]).map fun x => x.val) := by
      rw [List.map_append, List.map_cons, List.map_nil, cnt9_snoc _ _ _ j hj9 hj]
    have hrg := cnt9_rng n (pre.map fun x => x.val) j hj9
    rw [List.length_map] at hrg
    have hc1 : V.cell? ⟨w.heap.size, 0, none⟩ = some (.int .u32 n) := Boxed.cell (t := 55) h1
    have hc2 := arr_at (cnt9 n (pre.map fun x => x.val)) (j := j) (by rw [cnt9_len]; exact hj9) h2
    have hf2 : V.frozen? ⟨w.heap.size + 1, j, none⟩ = false := Lib.frozen_of_heap h2 _
    have hc3 : V.cell? ⟨w.heap.size + 2, 0, none⟩ = some (.slice (some ⟨w.heap.size + 1, 0, none⟩) 9 9) := Boxed.cell (t := 61) h3
    have H1 := Lib.hid h1
    have H2 := Lib.hid h2
    have H3 := Lib.hid h3
    have HB := Lib.hid hB
    have HJ := Lib.hid hj
    have HS := Lib.hid hS
    have HF := Lib.hid (fun X => meets_fin (X := X) (y := (cnt9 n (pre.map fun x => x.val)).getD j 0 + 1) h1 h2 h3 hB hS (w.heap.size + 3) (w.heap.size + 5) w4.heap.size 10 (by omega) (by omega))
    clear h1 h2 h3 hB hj hS hit hB4 hA4 hX4 hE4 hle hnn hx
    generalize (cnt9 n (pre.map fun x => x.val)).getD j 0 = y at *
    have wax : IsW (andI x.val n) := ⟨andI_nonneg _ _, andI_le _ _ hn.2⟩
    generalize hax : andI x.val n = ax at *
    have HAX := Lib.hid hax
    clear hax
    generalize x.val = xv at *
    have hwy : IntKind.i64.wrap (y + 1) = y + 1 := by rw [IntKind.wrap_i64]; omega
    have HWY := Lib.hid hwy
    clear hwy
    gi_wp2
    gi_region_with_o (first
      | (refine ⟨trivial, ?_⟩; refine (CallsIn.inRound l (callsIn_wide.2 (word_meet _ _ _ wx.1 wx.2 hn.1 hn.2))).mono ?_; rintro e w' ⟨he, rfl⟩; rw [HAX.out] at he; subst he)
      | (refine ⟨trivial, ?_⟩; refine (CallsIn.inRound l (callsIn_wide.2 (word_weight ax _ wax.1 wax.2))).mono ?_; rintro e w' ⟨he, kk, rfl⟩; rw [HJ.out] at he; subst he))
    all_goals gi_wp2
    all_goals (rw [HWY.out]; exact HF.out _ rfl ⟨rfl, rfl, rfl⟩)
  case done =>
    rintro D ys V hD hS ⟨⟨⟨h1, h2⟩, h3⟩, hB⟩ hK
    have hc3 : V.cell? ⟨w.heap.size + 2, 0, none⟩ = some (.slice (some ⟨w.heap.size + 1, 0, none⟩) 9 9) := Boxed.cell (t := 61) h3
    have hl : cnt9 n (ys.map fun x => x.val) = cnt9 n octS := by
      rw [hS, filter_00, cnt9_perm n (octF_perm k hk)]
    have HS := Lib.hid hl
    have H2 := Lib.hid h2
    have HB := Lib.hid hB
    clear h1 h2 h3 hB hl hS hit hB4 hA4 hX4 hE4
    gi_wp2
    refine ⟨by simp, .inl ⟨_, _, rfl, run_takeDeferred hK, ?_⟩⟩
    refine ⟨_, results_tmp rfl _ _ _, _, rfl, ?_, HB.out.trans (belowK_b (w := w) (Nat.le_refl _) V D _ _ (by omega) hK rfl rfl)⟩
    rw [← HS.out]
    exact own_arr9 _ (cnt9_len _ _) ((World.putObj_heap_other (by omega)).trans H2.out) (Nat.le_succ _)
  case stop =>
    rintro D c pre V _ _ h _
    exact h.elim
theorem iOctadMeet_calls (n : Int) (w : World) (hT : Tab3 w) :
    Calls Tryz.prog 136 #[.int .i64 n] w (GotL w (oMeet n).1 (oMeet n).2) := by
  rcases hb : oIn n with _ | _
  · rw [show oMeet n = ([], false) by simp [oMeet, hb]]
    go_enter Tryz.func136, Tryz.ntmps136
    go_wp2_with (go_at_call 190; refine (octadFrom_no _ _ hb hT).mono ?_; rintro e w1 ⟨rfl, b1⟩)
    go_ret2
    exact ⟨_, rfl, Own.nil_ _ _, b1⟩
  · rw [show oMeet n = (cnt9 n octS, true) by simp [oMeet, hb]]
    obtain ⟨wn, _, w8⟩ := oIn_w hb
    obtain ⟨k, hk⟩ : ∃ k, k = 4096 := ⟨_, rfl⟩
    have HM := Lib.hid (fun W hW => callsIn_wide.1 (meets_in n wn (by omega) k hk W hW))
    generalize cnt9 n octS = Z at *
    have H := Lib.hid hb
    clear hb w8
    go_enter Tryz.func136, Tryz.ntmps136
    go_wp2_with fail
    refine (octadFrom_yes _ _ H.out hT).mono ?_
    rintro e w1 ⟨rfl, b1⟩
    have HB1 := Lib.hid b1
    clear b1
    go_wp2_with fail
    refine (HM.out _ (hT.below HB1.out hT.lt).2).mono ?_
    rintro e w2 ⟨v, rfl, o2, b2⟩
    go_wp2_with fail
    go_ret2
    exact ⟨_, rfl, o2.weak HB1.out.size, HB1.out.trans (b2.mono HB1.out.size)⟩
/-- The least so far. -/
def minD (n : Int) (L : List Int) : Int := L.foldl (fun m x => if dodB n x then min m x else m) 16777215
theorem minD_snoc (n : Int) (L : List Int) (x : Int) : minD n (L ++ [x]) = if dodB n x then min (minD n L) x else minD n L := by simp [minD]
theorem minD_le (n : Int) (L : List Int) : minD n L ≤ 16777215 ∧ (∀ x ∈ L, dodB n x = true → minD n L ≤ x) ∧ (minD n L = 16777215 ∨ ∃ x ∈ L, dodB n x = true ∧ minD n L = x) := by
  induction L using snocInd with
  | nil => exact ⟨Int.le_refl _, by simp, .inl rfl⟩
  | append_singleton L y ih =>
    obtain ⟨h1, h2, h3⟩ := ih
    rw [minD_snoc]
    by_cases hy : dodB n y = true
    · rw [if_pos hy]
      refine ⟨by omega, fun x hx hd => ?_, ?_⟩
      · rcases List.mem_append.1 hx with h | h
        · have := h2 x h hd; omega
        · have : x = y := by simpa using h
          omega
      · rcases h3 with h3 | ⟨x, hx, hd, e⟩
        · by_cases hle : y ≤ 16777215
          · exact .inr ⟨y, by simp, hy, by omega⟩
          · exact .inl (by omega)
        · by_cases hle : minD n L ≤ y
          · exact .inr ⟨x, by simp [hx], hd, by omega⟩
          · exact .inr ⟨y, by simp, hy, by omega⟩
    · rw [if_neg hy]
      refine ⟨h1, fun x hx hd => ?_, ?_⟩
      · rcases List.mem_append.1 hx with h | h
        · exact h2 x h hd
        · have : x = y := by simpa using h
          rw [this] at hd
          exact absurd hd hy
      · rcases h3 with h3 | ⟨x, hx, hd, e⟩
        · exact .inl h3
        · exact .inr ⟨x, by simp [hx], hd, e⟩
theorem minD_all (n : Int) (hn : IsW n) (hc : codeInB n = true) (h12 : wt n = 12) (L : List Int) (hL : ∀ x, x ∈ L ↔ IsOct x) : minD n L = leastD n := by
  obtain ⟨a, b, c⟩ := leastD_is n hn.1 hn.2 hc h12
  obtain ⟨h1, h2, h3⟩ := minD_le n L
  have h4 := h2 _ ((hL _).2 a) b
  rcases h3 with h3 | ⟨x, hx, hd, e⟩
  · have := a.rng; omega
  · have := c x ((hL x).1 hx) hd; omega
theorem dod_in (n x : Int) (hn : IsW n) (hc : codeInB n = true) (hx : IsOct x) : codeInB (xorI n x) = true := by
  have hr := hx.rng
  obtain ⟨m, hm, e, _⟩ := hx
  exact code_sum n x hn.1 hn.2 hr.1 hr.2 hc ((codeIn_iff x hr.1 hr.2).2 ⟨m, hm, e⟩)
end Go.Proofs.YtcfhfllcdliaoaaGreatDoor