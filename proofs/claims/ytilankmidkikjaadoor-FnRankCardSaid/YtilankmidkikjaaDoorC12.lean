/- Choosing and ranks. -/
import Derived.Shelf.RegionOpen
import Derived.Test.YtilankmidkikjaaDoorC10
import Derived.Test.YtilankmidkikjaaDoorC11
import Derived.Test.YtilankmidkikjaaDoorM7
namespace Go.Proofs.YtilankmidkikjaaDoor
open Go.RowKit Go.Shelf
attribute [local go_sem] Oper.semAt_some
set_option linter.unusedVariables false

set_option maxHeartbeats 400000 in
theorem choose_calls (n : Int) (k : Nat) (w : World) (h0 : 0 ≤ n) (h1 : n ≤ 23) (h2 : k ≤ 24) :
    Calls Tryd.prog 45 #[.int .i64 n, .int .i64 k] w fun e w' => e = .returned (.int .i64 (chI n k)) ∧ w = w' := by
  go_enter Tryd.func45, Tryd.ntmps45
  go_wp2
  go_loop [5, 8] (fun t i => ∃ j : Nat, j ≤ k ∧ i = .int .i64 j ∧ t = .int .i64 (chI n j)) (fun _ i => k - (intOf i).toNat)
  case atStart => exact ⟨0, by omega, rfl, rfl⟩
  case round =>
    obtain ⟨j, hj, rfl, rfl⟩ := hrel
    by_cases hlt : j < k
    · obtain ⟨r0, r1, r2, r3⟩ := chI_range n j h0 h1 (by omega)
      have HS := Lib.hid (show chI n (j + 1) = chI n j * (n - j) / ((j : Int) + 1) from rfl)
      generalize chI n j = V at *
      go_wp2
      go_round
      case rel => exact ⟨j + 1, by omega, by go_num, by rw [HS.out]⟩
      case measure => simp [intOf]; omega
    · obtain rfl : j = k := by omega
      go_wp2
      go_ret
      exact ⟨rfl, rfl⟩
theorem choose_int (n k : Int) (w : World) (h0 : 0 ≤ n) (h1 : n ≤ 23) (h2 : 0 ≤ k) (h3 : k ≤ 24) :
    Calls Tryd.prog 45 #[.int .i64 n, .int .i64 k] w fun e w' => e = .returned (.int .i64 (chI n k.toNat)) ∧ w = w' := by
  obtain ⟨q, rfl⟩ := Int.eq_ofNat_of_zero_le h2
  exact choose_calls n q w h0 h1 (by omega)
set_option maxHeartbeats 400000 in
theorem l1Choose_calls (n : Int) (k : Nat) (w : World) (h0 : 0 ≤ n) (h1 : n ≤ 23) (h2 : k ≤ 24) :
    Calls Tryd.prog 37 #[.int .i64 n, .int .i64 k] w fun e w' => e = .returned (.int .i64 (chI n k)) ∧ w = w' := by
  have hs := ch_same n k h0 h1 h2
  by_cases hk : (k : Int) ≤ n
  · rw [if_pos hk] at hs
    have HE := Lib.hid hs
    clear hs
    go_enter Tryd.func37, Tryd.ntmps37
    go_wp2
    go_loop [5, 6] (fun t i => ∃ j : Nat, j ≤ k ∧ i = .int .i64 ((j : Int) + 1) ∧ t = .int .i64 (chS n k j)) (fun _ i => k + 1 - (intOf i).toNat)
    case atStart => exact ⟨0, by omega, rfl, rfl⟩
    case round =>
      obtain ⟨j, hj, rfl, rfl⟩ := hrel
      by_cases hlt : j < k
      · obtain ⟨r0, r1, r2, r3⟩ := chS_range n k j (by omega) h1 hk (by omega)
        have HS := Lib.hid (show chS n k (j + 1) = chS n k j * (n - k + ((j : Int) + 1)) / ((j : Int) + 1) from rfl)
        generalize chS n k j = V at *
        have hlt' : (j : Int) + 1 ≤ k := by omega
        go_wp2
        go_round
        case rel => exact ⟨j + 1, by omega, by go_num, by rw [HS.out]⟩
        case measure => simp [intOf]; omega
      · obtain rfl : j = k := by omega
        have hlt' : ¬ (j : Int) + 1 ≤ j := by omega
        go_wp2
        go_ret
        exact ⟨ret_i HE.out, rfl⟩
  · rw [if_neg hk] at hs
    have HE := Lib.hid hs
    have hk' : n < k := by omega
    clear hs
    go_enter Tryd.func37, Tryd.ntmps37
    go_wp2
    go_ret
    exact ⟨ret_i HE.out, rfl⟩
theorem l1Choose_int (n k : Int) (w : World) (h0 : 0 ≤ n) (h1 : n ≤ 23) (h2 : 0 ≤ k) (h3 : k ≤ 24) :
    Calls Tryd.prog 37 #[.int .i64 n, .int .i64 k] w fun e w' => e = .returned (.int .i64 (chI n k.toNat)) ∧ w = w' := by
  obtain ⟨q, rfl⟩ := Int.eq_ofNat_of_zero_le h2
  exact l1Choose_calls n q w h0 h1 (by omega)
theorem l1Places_int (n : Int) (w : World) (h : 0 ≤ n) :
    Calls Tryd.prog 32 #[.int .i64 n] w fun e w' => ∃ v, e = .returned v ∧ Own w' w.heap.size v (plI n.toNat) ∧ Below w.heap.size w w' := by
  obtain ⟨R, rfl⟩ := Int.eq_ofNat_of_zero_le h
  exact l1Places_calls R w
def vF (pre : List (Fin 24)) : List Nat := pre.map fun x => x.val
theorem rk_range (pre : List (Fin 24)) (h : pre.length ≤ 24) : 0 ≤ rk (vF pre) ∧ rk (vF pre) ≤ 40000000 := by
  have := rkT_range (vF pre) (by intro x hx; simp only [vF, List.mem_map] at hx; obtain ⟨y, _, rfl⟩ := hx; exact y.isLt) (vF pre).length (Nat.le_refl _) (by simp [vF]; omega)
  have hl : (vF pre).length = pre.length := by simp [vF]
  unfold rk
  omega
theorem rank_step {w W : World} {pre : List (Fin 24)} {x : Fin 24} {V Z : Int} (hB : Below w.heap.size w W)
    (hc : W.cell? ⟨w.heap.size, 0, none⟩ = some (.int .i64 V)) (hf : W.frozen? ⟨w.heap.size, 0, none⟩ = false)
    (hc2 : W.cell? ⟨w.heap.size + 1, 0, none⟩ = some (.int .i64 (pre.length : Nat))) (hf2 : W.frozen? ⟨w.heap.size + 1, 0, none⟩ = false) (hv : Z = rk (vF (pre ++ [x]))) :
    let W' := ((W.setCell ⟨w.heap.size + 1, 0, none⟩ (.int .i64 ((pre.length : Int) + 1))).setCell ⟨w.heap.size, 0, none⟩ (.int .i64 Z)).drew
    KeepsOthers W W' ∧ Below w.heap.size W W' ∧ ((W'.cell? ⟨w.heap.size, 0, none⟩ = some (.int .i64 (rk (vF (pre ++ [x])))) ∧ W'.frozen? ⟨w.heap.size, 0, none⟩ = false) ∧ (W'.cell? ⟨w.heap.size + 1, 0, none⟩ = some (.int .i64 ((pre ++ [x]).length : Nat)) ∧ W'.frozen? ⟨w.heap.size + 1, 0, none⟩ = false)) ∧ Below w.heap.size w W' := by
  intro W'
  have b : Below w.heap.size W W' := (((Below.refl _ W).setCell (p := ⟨w.heap.size + 1, 0, none⟩) (by simp) _).setCell (p := ⟨w.heap.size, 0, none⟩) (Nat.le_refl _) _).drew
  refine ⟨((KeepsOthers.setCell _ _ _).trans (KeepsOthers.setCell _ _ _)).trans (KeepsOthers.drew _), b, ⟨⟨?_, ?_⟩, ?_, ?_⟩, hB.trans b⟩
  · show World.cell? (World.drew _) _ = _
    rw [World.cell?_drew, World.cell?_setCell_same _ _ _ (by rw [World.cell?_setCell_other _ _ _ _ (by simp)]; exact hc), hv]
  · show World.frozen? (World.drew _) _ = _
    rw [frozen_drew_own, World.frozen?_setCell, World.frozen?_setCell]; exact hf
  · show World.cell? (World.drew _) _ = _
    rw [World.cell?_drew, World.cell?_setCell_other _ _ _ _ (by simp), World.cell?_setCell_same _ _ _ hc2]; simp
  · show World.frozen? (World.drew _) _ = _
    rw [frozen_drew_own, World.frozen?_setCell, World.frozen?_setCell]; exact hf2
set_option maxRecDepth 100000 in
set_option maxHeartbeats 2000000 in
theorem rank_in (R : Nat) (hR : R < 16777216) (w : World) (hT : Tab w) :
    CallsIn Fence.wide 6 Tryd.prog 36 #[.int .u32 R] w fun e w' => e = .returned (.int .i64 (rk (pl R))) ∧ Below w.heap.size w w' := by
  refine callsIn_of_wp_marks Tryd.func36 rfl trivial ?_ rfl
  simp only [Tryd.ntmps36, List.size_toArray, List.length_cons, List.length_nil, Nat.reduceAdd, Nat.reduceSub, Array.replicate_succ, Array.replicate_zero, List.push_toArray, List.append_toArray, List.nil_append, List.cons_append]
  gi_wp2_with (refine ⟨trivial, ?_⟩; gi_at_call 29; refine (places_in _ _ _).mono ?_; rintro e w' ⟨rfl, rfl⟩)
  have h3 := Boxed.new w 3 (.int .i64 0)
  have h4 := Boxed.new (w.alloc (.cells #[.int .i64 0] 3)) 3 (.int .i64 0)
  have hb := Boxed.new ((w.alloc (.cells #[.int .i64 0] 3)).alloc (.cells #[.int .i64 0] 3)) 40 (.int .u32 R)
  simp only [World.size_alloc] at h4 hb
  have hB0 : Below w.heap.size w (((w.alloc (.cells #[.int .i64 0] 3)).alloc (.cells #[.int .i64 0] 3)).alloc (.cells #[.int .u32 R] 40)) := (((Below.refl _ w).alloc (Nat.le_refl _) _).alloc (by simp) _).alloc (by simp; omega) _
  obtain ⟨xs, hxs⟩ := plF_ex R
  have HV := Lib.hid hxs
  have hxl : xs.length ≤ 24 := by have := congrArg List.length hxs; have := pl_len R; simp at *; omega
  refine wpIn_rangeFunc_ownF rfl (by omega) (gf := 43) (lb := #[.pointer (some ⟨w.heap.size + 1 + 1, 0, none⟩)]) rfl trivial (enters_of Tryd.func43 (by kernel_rfl) rfl)
    (places_stops 5 (by omega) (w.heap.size + 1 + 1) w.heap.size R hR xs hxs _ (by simp) (by simp; omega) hT.lt hb.cell (hT.below hB0 hT.lt)) belowK_t (belowK_b (by simp; omega)) (Below.refl _ _) (fun _ => rfl)
    (fun pre W => ((W.cell? ⟨w.heap.size, 0, none⟩ = some (.int .i64 (rk (vF pre))) ∧ W.frozen? ⟨w.heap.size, 0, none⟩ = false) ∧ (W.cell? ⟨w.heap.size + 1, 0, none⟩ = some (.int .i64 (pre.length : Nat)) ∧ W.frozen? ⟨w.heap.size + 1, 0, none⟩ = false)) ∧ Below w.heap.size w W)
    (fun _ _ _ => False)
    (OwnFrom.and (Go.Own.from (fun s A B row hs hg hr => ⟨⟨cell_kept hs.1.1 hg hr, (frozen_kept hs.1.1 hg hr).trans hs.1.2⟩, ⟨cell_kept hs.2.1 hg hr, (frozen_kept hs.2.1 hg hr).trans hs.2.2⟩⟩) _) (ownFrom_below (Nat.le_refl _) (by simp; omega)))
    (fun _ _ _ _ _ hs _ _ => hs)
    ⟨⟨⟨((h3.alloc _).alloc _).cell, ((h3.alloc _).alloc _).frozen⟩, ⟨(h4.alloc _).cell, (h4.alloc _).frozen⟩⟩, hB0⟩
    (fun x => { tmps := #[.int .u32 R, undef, .int .i64 0, .pointer (some ⟨w.heap.size, 0, none⟩), .pointer (some ⟨w.heap.size + 1, 0, none⟩), .int .i64 (x.val : Nat), .int .u32 R, .func (.func 43) #[] #[.pointer (some ⟨w.heap.size + 1 + 1, 0, none⟩)], .int .i64 (x.val : Nat), undef, undef, undef, undef, undef, undef, undef, undef], defers := [] }) ?assign ?body ?done ?stop
  case assign =>
    intro l x W K hK
    gi_wp2
    exact hK
  case body =>
    rintro l pre x W ⟨⟨⟨hc, hf⟩, ⟨hc2, hf2⟩⟩, hB⟩ hlt
    have hd : 1 ≤ 6 - 1 - 1 := by omega
    have hmx : Tryd.prog.follows .mixedOrders = true := by kernel_rfl
    have hx24 := x.isLt
    have hr := rk_range pre (by omega)
    have hq := chI_range (x.val : Int) (pre.length + 1) (by omega) (by omega) (by omega)
    have hl : (vF pre).length = pre.length := by simp [vF]
    have HW := Lib.hid (show IntKind.i64.wrap (rk (vF pre) + chI (x.val : Int) (pre.length + 1)) = rk (vF (pre ++ [x])) by
      have e : vF (pre ++ [x]) = vF pre ++ [x.val] := by simp [vF]
      rw [e, rk_snoc, hl, IntKind.wrap_i64]; omega)
    clear hl
    have HT := Lib.hid (show ((pre.length : Int) + 1).toNat = pre.length + 1 by omega)
    generalize rk (vF pre) = V at *
    gi_wp2
    gi_region_with_o (refine ⟨trivial, ?_⟩; gi_at_call 45; refine (CallsIn.inRound l (callsIn_wide.2 (choose_int _ _ _ (by omega) (by omega) (by omega) (by omega)))).mono ?_; rintro e w' ⟨rfl, rfl⟩; rw [HT.out])
    all_goals gi_wp2
    all_goals exact rank_step hB hc hf hc2 hf2 HW.out
  case done =>
    rintro D ys W hD rfl ⟨⟨⟨hc, hf⟩, ⟨hc2, hf2⟩⟩, hB⟩ hK
    gi_wp2
    refine ⟨by simp, .inl ⟨_, _, rfl, run_takeDeferred hK, ?_⟩⟩
    have he : rk (vF ys) = rk (pl R) := by rw [← HV.out]; rfl
    refine ⟨_, results_tmp rfl _ _ _, ?_, ?_⟩
    · exact ret_i (k := .i64) he
    exact hB.trans (belowK_b (w := w) (Nat.le_refl _) W D _ _ (by simp at hD; omega) hK rfl rfl)
  case stop =>
    rintro D c pre W _ _ h _
    exact h.elim
theorem rank_calls (n : Int) (w : World) (h : IsW n) (hT : Tab w) :
    Calls Tryd.prog 36 #[.int .u32 n] w fun e w' => e = .returned (.int .i64 (rk (pl n.toNat))) ∧ Below w.heap.size w w' := by
  obtain ⟨h0, h1⟩ := h
  obtain ⟨R, rfl⟩ := Int.eq_ofNat_of_zero_le h0
  exact callsIn_wide.1 (rank_in R (by omega) w hT)
theorem iWordRank_ok (n : Int) (w : World) (h : IsW n) (hT : Tab w) :
    Calls Tryd.prog 18 #[.int .i64 n] w fun e w' => e = .returned (.tuple #[.int .i64 (rk (pl n.toNat)), .bool true]) ∧ Below w.heap.size w w' := by
  go_enter Tryd.func18, Tryd.ntmps18
  go_wp2_with (first
    | (go_at_call 25; refine (wordFrom_ok _ _ h.1 h.2).mono ?_; rintro e w' ⟨rfl, rfl⟩)
    | (go_at_call 36; refine (rank_calls _ _ h hT).mono ?_; rintro e w1 ⟨rfl, hb⟩))
  go_ret2
  exact ⟨rfl, hb⟩
theorem iWordRank_no (n : Int) (w : World) (h : NoW n) :
    Calls Tryd.prog 18 #[.int .i64 n] w fun e w' => e = .returned (.tuple #[.int .i64 0, .bool false]) ∧ w = w' := by
  go_enter Tryd.func18, Tryd.ntmps18
  go_wp2_with (go_at_call 25; refine (wordFrom_no _ _ h).mono ?_; rintro e w' ⟨rfl, rfl⟩)
  go_ret2
  exact ⟨rfl, rfl⟩
set_option maxHeartbeats 400000 in
theorem sWordRank_ok (n : Int) (w : World) (h : IsW n) :
    Calls Tryd.prog 19 #[.int .i64 n] w fun e w' => e = .returned (.tuple #[.int .i64 (rk (pl n.toNat)), .bool true]) ∧ Below w.heap.size w w' := by
  have hl24 := pl_len n.toNat
  have hlt24 := pl_lt n.toNat
  have hI : plI n.toNat = (pl n.toNat).map fun (i : Nat) => (i : Int) := rfl
  generalize pl n.toNat = ps at *
  have HL := Lib.hid hlt24
  have HI := Lib.hid hI
  clear hlt24 hI
  go_enter Tryd.func19, Tryd.ntmps19
  go_wp2_with (first
    | (go_at_call 27; refine (sWordValid_ok _ _ h.1 h.2).mono ?_; rintro e w' ⟨rfl, rfl⟩)
    | (go_at_call 32; refine (l1Places_int _ _ h.1).mono ?_; rintro e w1 ⟨v, rfl, ho, hb⟩; rw [HI.out] at ho))
  obtain ⟨A, c, rfl⟩ := ho.slice
  rw [List.length_map]
  have HO := Lib.hid ho
  have HB := Lib.hid hb
  clear ho hb
  go_loop [5, 6] (fun t i => ∃ j : Nat, j ≤ ps.length ∧ i = .int .i64 j ∧ t = .int .i64 (rkT ps j)) (fun _ i => ps.length - (intOf i).toNat)
  case atStart => exact ⟨0, by omega, rfl, rfl⟩
  case round =>
    obtain ⟨j, hj, rfl, rfl⟩ := hrel
    by_cases hlt : j < ps.length
    · obtain ⟨b, o, rfl, _, hc⟩ := HO.out.rds.at_ (j := j) (by simpa using hlt)
      have hx : (ps.map fun (i : Nat) => (i : Int)).getD j 0 = ((ps.getD j 0 : Nat) : Int) := by simp [hlt]
      rw [hx] at hc
      have hm : ps.getD j 0 < 24 := by
        rw [List.getD_eq_getElem?_getD, List.getElem?_eq_getElem hlt]
        exact HL.out _ (List.getElem_mem _)
      have r1 := rkT_range ps HL.out j (by omega) (by omega)
      have r2 := chI_range ((ps.getD j 0 : Nat) : Int) (j + 1) (by omega) (by omega) (by omega)
      have HS := Lib.hid (show rkT ps (j + 1) = rkT ps j + chI ((ps.getD j 0 : Nat) : Int) (j + 1) from rfl)
      have HT := Lib.hid (show ((j : Int) + 1).toNat = j + 1 by omega)
      generalize rkT ps j = V at *
      generalize ps.getD j 0 = y at *
      obtain ⟨r20, r21, _⟩ := r2
      clear hx
      go_wp2_with (go_at_call 37; refine (l1Choose_int _ _ _ (by omega) (by omega) (by omega) (by omega)).mono ?_; rintro e w' ⟨rfl, rfl⟩; rw [HT.out])
      go_round
      case rel => exact ⟨j + 1, by omega, by go_num, by rw [HS.out]⟩
      case measure => simp [intOf]; omega
    · obtain rfl : j = ps.length := by omega
      go_wp2
      go_ret2
      exact ⟨rfl, HB.out⟩
theorem sWordRank_no (n : Int) (w : World) (h : NoW n) :
    Calls Tryd.prog 19 #[.int .i64 n] w fun e w' => e = .returned (.tuple #[.int .i64 0, .bool false]) ∧ w = w' := by
  go_enter Tryd.func19, Tryd.ntmps19
  go_wp2_with (go_at_call 27; refine (sWordValid_no _ _ h).mono ?_; rintro e w' ⟨rfl, rfl⟩)
  go_ret2
  exact ⟨rfl, rfl⟩
end Go.Proofs.YtilankmidkikjaaDoor
