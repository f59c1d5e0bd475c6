/- Which lists are sextets, of the program. -/
import Derived.Test.YtagniijhbiglaaaDoorC49
import Derived.Test.YtagniijhbiglaaaDoorC50
import Derived.Deep.RegionHeld3
import Derived.ChangeKeysEq
namespace Go.Proofs.YtagniijhbiglaaaDoor
open Go.RowKit Go.Shelf
set_option linter.unusedVariables false
attribute [local irreducible] octS cN octF syn

def eqW (a0 a1 a2 a3 a4 a5 b0 b1 b2 b3 b4 b5 : Int) : Bool := a0 == b0 && (a1 == b1 && (a2 == b2 && (a3 == b3 && (a4 == b4 && a5 == b5))))
theorem eqW_iff (a0 a1 a2 a3 a4 a5 b0 b1 b2 b3 b4 b5 : Int) : eqW a0 a1 a2 a3 a4 a5 b0 b1 b2 b3 b4 b5 = decide ([a0, a1, a2, a3, a4, a5] = [b0, b1, b2, b3, b4, b5]) := by
  unfold eqW
  rw [Bool.eq_iff_iff]
  simp
theorem eq_sx (a0 a1 a2 a3 a4 a5 b0 b1 b2 b3 b4 b5 : Int) (W : World) : (Op.equalIn 10000 55 (.agg #[.int .u32 a0, .int .u32 a1, .int .u32 a2, .int .u32 a3, .int .u32 a4, .int .u32 a5]) (.agg #[.int .u32 b0, .int .u32 b1, .int .u32 b2, .int .u32 b3, .int .u32 b4, .int .u32 b5])).run Tryd.prog W = .ok (eqW a0 a1 a2 a3 a4 a5 b0 b1 b2 b3 b4 b5) W := by
  have h0 : (Tryd.prog.info? 51).map (·.size) = some 1 := by kernel_rfl
  obtain ⟨i, hi, hs⟩ := Option.map_eq_some_iff.1 h0
  have hc : Tryd.prog.cellsOf 51 = 1 := by kernel_rfl
  rw [show (10000 : Nat) = 9998 + 1 + 1 from rfl, run_equalIn_array W (9998 + 1) _ _ Tryd.underlying55 hi, hc]
  simp only [List.range, List.range.loop, Op.eqItems]
  have u5 := Tryd.underlying51
  go_simp
  unfold eqW
  repeat' split
  all_goals simp_all
/-- The array while it is read. -/
def padX (xs : List Int) (k : Nat) : List Int := xs.take k ++ List.replicate (6 - k) 0
theorem padX_zero (xs : List Int) : padX xs 0 = [0, 0, 0, 0, 0, 0] := by simp [padX]
theorem padX_len (xs : List Int) (k : Nat) (h : xs.length = 6) (hk : k ≤ 6) : (padX xs k).length = 6 := by simp [padX]; omega
theorem padX_all (xs : List Int) (h : xs.length = 6) : padX xs 6 = xs := by simp [padX, List.take_of_length_le (Nat.le_of_eq h)]
theorem padX_set (xs : List Int) (k : Nat) (h : xs.length = 6) (hk : k < 6) : (padX xs k).set k (xs.getD k 0) = padX xs (k + 1) := by
  unfold padX
  rw [tk_succ xs k (by omega), show 6 - k = (6 - (k + 1)) + 1 by omega, List.replicate_succ, List.set_append_right _ _ (by simp; omega)]
  have : k - (xs.take k).length = 0 := by simp; omega
  rw [this, List.set_cons_zero]
  simp
def zS : Array Value := #[.int .u32 0, .int .u32 0, .int .u32 0, .int .u32 0, .int .u32 0, .int .u32 0]
theorem sxB_tets {xs : List Int} (h : sxB xs = true) (j : Nat) (hj : j < 6) : tetB (xs.getD j 0) = true := by
  obtain ⟨w, hw, rfl⟩ := (sxB_iff xs).1 h
  exact (tetB_iff _).2 (sxOf_same hw (sx_at hw j hj)).1
set_option maxRecDepth 100000 in
set_option maxHeartbeats 1000000 in
theorem sextetFrom_short (A : Option Addr) (c n : Nat) (w : World) (h6 : n ≠ 6) (hn : n ≤ maxLen) :
    Calls Tryd.prog 56 #[.slice A n c] w fun e w' => e = .returned (.tuple #[.agg zS, .bool false]) ∧ Below w.heap.size w w' := by
  unfold maxLen at hn
  have h61 : ((n : Int) == 6) = false := by simp; omega
  have h62 : ((n : Int) != 6) = true := by simp; omega
  clear h6
  go_enter Tryd.func56, Tryd.ntmps56
  go_wp2_with fail
  exact bodyPost_ret (v := .tuple #[.agg zS, .bool false]) (by simp [results, Tryd.results56, go_sem, zS]) rfl ⟨rfl, (Below.refl _ _).alloc (Nat.le_refl _) _⟩
set_option maxRecDepth 100000 in
set_option maxHeartbeats 2000000 in
theorem sextetFrom_six (A : Option Addr) (c : Nat) (xs : List Int) (w : World) (ha : Rds w w.heap.size .i64 A xs) (h6 : xs.length = 6) (hT : Tab2 w) :
    Calls Tryd.prog 56 #[.slice A 6 c] w fun e w' => e = .returned (.tuple #[.agg (if sxB xs then arrW xs else zS), .bool (sxB xs)]) ∧ Below w.heap.size w w' := by
  have HA := Lib.hid ha
  have H6 := Lib.hid h6
  have HT := Lib.hid hT
  clear ha h6 hT
  go_enter Tryd.func56, Tryd.ntmps56
  go_wp2_with fail
  go_loopw [15] (fun i wr => ∃ k : Nat, k ≤ 6 ∧ i = .int .i64 k ∧ Hid (Blk wr w.heap.size 55 zS) ∧ Hid (wr.heap[w.heap.size + 1]? = some (.cells (arrW (padX xs k)) 55 (0, 0))) ∧ Hid (∀ j, j < k → Tet (xs.getD j 0)) ∧ Hid (Below w.heap.size w wr)) (fun i _ => 6 - (intOf i).toNat)
  case atStart => exact ⟨0, by omega, rfl, Lib.hid ((Blk.new w _ _).alloc _), Lib.hid (by rw [padX_zero]; exact Blk.new1 w _ _ _), Lib.hid (fun j h => absurd h (by omega)), Lib.hid (((Below.refl _ w).alloc (Nat.le_refl _) _).alloc (by simp) _)⟩
  case round =>
    obtain ⟨k, hk, rfl, h0, h1, ht, hb⟩ := hrel
    by_cases hlt : k < 6
    · obtain ⟨b, o, rfl, hbb, hc⟩ := (HA.out.below hb.out).at_ (j := k) (by rw [H6.out]; exact hlt)
      have hq1 : (0 : Int) ≤ (k : Int) := by omega
      have hq2 : (k : Int) < 6 := by omega
      rcases htx : tetB (xs.getD k 0) with _ | _
      · have HF := Lib.hid (show sxB xs = false by
          rcases hs : sxB xs with _ | _
          · rfl
          · rw [sxB_tets hs k hlt] at htx; cases htx)
        have HTX := Lib.hid htx
        clear htx
        generalize xs.getD k 0 = x at *
        go_wp2_with fail
        refine (tetradFrom_no _ _ HTX.out).mono ?_
        rintro e w' ⟨rfl, q, rfl⟩
        have hQ := h0.out
        unfold zS at hQ
        obtain ⟨r0, r1, r2, r3, r4, r5, rf⟩ := (hQ.drewN q).six
        have HQ := Lib.hid (hQ.drewN q)
        have HB := Lib.hid (below_drewN hb.out q)
        clear hQ
        try simp only []
        repeat (first | go_step | go_guarded | go_skip)
        exact bodyPost_ret (results_ct rfl rfl rfl HQ.out.set6 Tryd.underlying55 rfl sxInfo) rfl ⟨by rw [HF.out]; rfl, below_set6 HB.out (Nat.le_refl _)⟩
      · have hTX := (tetB_iff _).1 htx
        have HT1 := Lib.hid (show ∀ j, j < k + 1 → Tet (xs.getD j 0) from fun j hj => by
          by_cases e : j = k
          · rw [e]; exact hTX
          · exact ht.out j (by omega))
        have HP := Lib.hid (padX_set xs k H6.out hlt)
        have hc1 := arrW_at (j := k) (padX xs k) (by rw [padX_len xs k H6.out (by omega)]; exact hlt) h1.out
        have hf1 : wr.frozen? ⟨w.heap.size + 1, k, none⟩ = false := Lib.frozen_of_heap h1.out _
        have HTX := Lib.hid hTX
        generalize (padX xs k).getD k 0 = z at *
        clear htx hTX
        generalize xs.getD k 0 = x at *
        go_wp2_with fail
        refine (tetradFrom_yes _ _ HTX.out).mono ?_
        rintro e w' ⟨rfl, q, rfl⟩
        have hc2 : (wr.drewN q).cell? ⟨w.heap.size + 1, k, none⟩ = some (.int .u32 z) := hc1
        have hf2 : (wr.drewN q).frozen? ⟨w.heap.size + 1, k, none⟩ = false := hf1
        have H1 := Lib.hid (show (wr.drewN q).heap[w.heap.size + 1]? = some (.cells (arrW (padX xs k)) 55 (0, 0)) from h1.out)
        have H0 := Lib.hid (h0.out.drewN q)
        have HB := Lib.hid (below_drewN hb.out q)
        clear hc1 hf1
        generalize wr.drewN q = V at *
        go_wp2_with fail
        go_roundw
        case rel => exact ⟨k + 1, by omega, by go_num, Lib.hid (H0.out.far (p := ⟨w.heap.size + 1, k, none⟩) (by show w.heap.size ≠ w.heap.size + 1; omega) _), Lib.hid (by rw [← HP.out]; exact arrW_set _ _ H1.out), HT1, Lib.hid (HB.out.setCell (p := ⟨w.heap.size + 1, k, none⟩) (Nat.le_succ _) _)⟩
        case measure => simp [intOf]; omega
    · obtain rfl : k = 6 := by omega
      have hTa := ht.out 0 (by omega)
      obtain ⟨kk, hkk⟩ : ∃ k, k = 4096 := ⟨_, rfl⟩
      have hS := fun W hW => callsIn_wide.1 (sextet_in _ hTa kk hkk W hW)
      have h62 := sxOf_len hTa
      have hA := h1.out
      rw [padX_all xs H6.out] at hA
      have hD : sxB xs = decide (xs = sxOf (xs.getD 0 0)) := by unfold sxB; rw [(tetB_iff _).2 hTa]; rfl
      obtain ⟨a, b, c0, d, e, f, rfl⟩ := six_of H6.out
      obtain ⟨a', b', c', d', e', f', hs⟩ := six_of h62
      rw [hs, ← eqW_iff] at hD
      have e0 : ([a, b, c0, d, e, f] : List Int).getD 0 0 = a := rfl
      rw [e0] at hs hTa
      simp only [e0] at hS
      rw [hs] at hS
      rw [arrW_six] at hA
      simp only [arrW_six] at hS
      have Q1 : Blk wr (w.heap.size + 1) 55 #[.int .u32 a, .int .u32 b, .int .u32 c0, .int .u32 d, .int .u32 e, .int .u32 f] := hA
      have Q0 := h0.out
      unfold zS at Q0
      obtain ⟨q0, q1, q2, q3, q4, q5, qf⟩ := Q1.six
      have HQ1 := Lib.hid Q1
      have HQ0 := Lib.hid Q0
      have HTW := Lib.hid (HT.out.below hb.out HT.out.lt)
      have HTD := Lib.hid (show Tab2 wr.drew from HT.out.below hb.out.drew HT.out.lt)
      have HS := Lib.hid hS
      have hlt1 : w.heap.size + 1 < wr.heap.size := Q1.lt
      clear Q1 Q0 hA hS h62 hs hTa h1 h0 ht
      have hEQ := eq_sx a b c0 d e f a' b' c' d' e' f'
      rcases hE : eqW a b c0 d e f a' b' c' d' e' f' with _ | _
      all_goals
        rw [hE] at hD
        simp only [hE] at hEQ
        have HD := Lib.hid hD
        clear hD hE
        go_wp2_with fail
        go_region_held3 (fun w' => w'.cell? ⟨w.heap.size + 1, 0, none⟩ = some (.int .u32 a) ∧ w'.cell? ⟨w.heap.size + 1, 1, none⟩ = some (.int .u32 b) ∧ w'.cell? ⟨w.heap.size + 1, 2, none⟩ = some (.int .u32 c0) ∧ w'.cell? ⟨w.heap.size + 1, 3, none⟩ = some (.int .u32 d) ∧ w'.cell? ⟨w.heap.size + 1, 4, none⟩ = some (.int .u32 e) ∧ w'.cell? ⟨w.heap.size + 1, 5, none⟩ = some (.int .u32 f))
          (first | go_keep | (go_split_ands; refine ⟨?_, ?_, ?_, ?_, ?_, ?_⟩ <;> exact (hb2.cell (p := ⟨w.heap.size + 1, _, none⟩) hlt1).trans (by assumption)))
          ((go_at_call 46; refine (HS.out _ (by first | exact HTD.out | exact HTW.out)).mono ?_; rintro e w2 ⟨rfl, hb2⟩))
      · have hQ := HQ0.out.drew.below hb2 (show w.heap.size < wr.heap.size by omega)
        obtain ⟨r0, r1, r2, r3, r4, r5, rf⟩ := hQ.six
        have HQ := Lib.hid hQ
        have HB := Lib.hid (hb.out.drew.trans (hb2.mono hb.out.size))
        clear hQ hb2
        try simp only []
        repeat (first | go_step | go_guarded | go_skip)
        exact bodyPost_ret (results_ct rfl rfl rfl HQ.out.set6 Tryd.underlying55 rfl sxInfo) rfl ⟨by rw [HD.out]; rfl, below_set6 HB.out (Nat.le_refl _)⟩
      · have hQ := HQ0.out.drew.below hb2 (show w.heap.size < wr.heap.size by omega)
        obtain ⟨r0, r1, r2, r3, r4, r5, rf⟩ := hQ.six
        have HQ := Lib.hid hQ
        have HB := Lib.hid (hb.out.drew.trans (hb2.mono hb.out.size))
        clear hQ hb2
        try simp only []
        repeat (first | go_step | go_guarded | go_skip)
        exact bodyPost_ret (results_ct rfl rfl rfl HQ.out.set6 Tryd.underlying55 rfl sxInfo) rfl ⟨by rw [HD.out]; rfl, below_set6 HB.out (Nat.le_refl _)⟩
/-- What 'sextetFrom' answers. -/
def sfL (xs : List Int) : List Int := if sxB xs then xs else [0, 0, 0, 0, 0, 0]
theorem sfL_len (xs : List Int) : (sfL xs).length = 6 := by
  unfold sfL
  split
  · rename_i h
    obtain ⟨u, hu, hxu⟩ := (sxB_iff xs).1 h
    rw [hxu, sxOf_len hu]
  · rfl
theorem sextetFrom_calls (A : Option Addr) (c : Nat) (xs : List Int) (w : World) (ha : Rds w w.heap.size .i64 A xs) (hx : xs.length ≤ maxLen) (hT : Tab2 w) :
    Calls Tryd.prog 56 #[.slice A xs.length c] w fun e w' => e = .returned (.tuple #[.agg (arrW (sfL xs)), .bool (sxB xs)]) ∧ Below w.heap.size w w' := by
  have hv : (if sxB xs then arrW xs else zS) = arrW (sfL xs) := by
    unfold sfL
    split
    · rfl
    · rfl
  by_cases h6 : xs.length = 6
  · rw [h6, ← hv]
    exact sextetFrom_six A c xs w ha h6 hT
  · rw [← hv, sxB_len h6]
    exact sextetFrom_short A c xs.length w h6 hx
set_option maxHeartbeats 1000000 in
theorem iSextetValid_calls (A : Option Addr) (c : Nat) (xs : List Int) (w : World) (ha : Rds w w.heap.size .i64 A xs) (hx : xs.length ≤ maxLen) (hT : Tab2 w) :
    Calls Tryd.prog 18 #[.slice A xs.length c] w fun e w' => e = .returned (.bool (sxB xs)) ∧ Below w.heap.size w w' := by
  have HF := Lib.hid (sextetFrom_calls A c xs w ha hx hT)
  obtain ⟨v0, v1, v2, v3, v4, v5, hs⟩ := six_of (sfL_len xs)
  rw [hs, arrW_six] at HF
  clear ha hx hs
  generalize sxB xs = y at *
  generalize xs.length = n at *
  go_enter Tryd.func18, Tryd.ntmps18
  go_wp2_with fail
  refine HF.out.mono ?_
  rintro e w1 ⟨rfl, b1⟩
  have HB := Lib.hid (b1.alloc b1.size (.cells #[.int .u32 v0, .int .u32 v1, .int .u32 v2, .int .u32 v3, .int .u32 v4, .int .u32 v5] 55))
  clear b1
  go_wp2_with fail
  go_ret
  exact ⟨rfl, HB.out⟩
end Go.Proofs.YtagniijhbiglaaaDoor
