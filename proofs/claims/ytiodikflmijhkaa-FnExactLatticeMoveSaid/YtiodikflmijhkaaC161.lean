/- Vectors of the program: within bounds, read from a list, listed; VectorValid. -/
import Derived.Test.YtiodikflmijhkaaC160
import Derived.Test.YtiodikflmijhkaaC164
import Derived.Deep.RegionHeld3
namespace Go.Proofs.Ytiodikflmijhkaa
open Go.RowKit
set_option linter.unusedVariables false
set_option linter.unusedSimpArgs false
attribute [local irreducible] cN syn

theorem vcInfo : (Try.prog.info? 30).map (·.size) = some 24 := by kernel_rfl
theorem vcInfoL (L : List Int) (h : L.length = 24) : (Try.prog.info? 30).map (·.size) = some (VL L).size := by rw [VL_size, h]; exact vcInfo
theorem vdx24 (L : List Int) (h : L.length = 24) (k : Nat) (hk : k < 24) (W : World) : (Instr.index 30 (.agg (VL L)) (.int .i64 (k : Int))).run Try.prog W = .ok (.int .i64 (atL L k)) W := by
  obtain ⟨x0, x1, x2, x3, x4, x5, x6, x7, x8, x9, x10, x11, x12, x13, x14, x15, x16, x17, x18, x19, x20, x21, x22, x23, rfl⟩ := list24 L h
  match k, hk with
  | 0, _ => exact (show _ = _ by kernel_rfl)
  | 1, _ => exact (show _ = _ by kernel_rfl)
  | 2, _ => exact (show _ = _ by kernel_rfl)
  | 3, _ => exact (show _ = _ by kernel_rfl)
  | 4, _ => exact (show _ = _ by kernel_rfl)
  | 5, _ => exact (show _ = _ by kernel_rfl)
  | 6, _ => exact (show _ = _ by kernel_rfl)
  | 7, _ => exact (show _ = _ by kernel_rfl)
  | 8, _ => exact (show _ = _ by kernel_rfl)
  | 9, _ => exact (show _ = _ by kernel_rfl)
  | 10, _ => exact (show _ = _ by kernel_rfl)
  | 11, _ => exact (show _ = _ by kernel_rfl)
  | 12, _ => exact (show _ = _ by kernel_rfl)
  | 13, _ => exact (show _ = _ by kernel_rfl)
  | 14, _ => exact (show _ = _ by kernel_rfl)
  | 15, _ => exact (show _ = _ by kernel_rfl)
  | 16, _ => exact (show _ = _ by kernel_rfl)
  | 17, _ => exact (show _ = _ by kernel_rfl)
  | 18, _ => exact (show _ = _ by kernel_rfl)
  | 19, _ => exact (show _ = _ by kernel_rfl)
  | 20, _ => exact (show _ = _ by kernel_rfl)
  | 21, _ => exact (show _ = _ by kernel_rfl)
  | 22, _ => exact (show _ = _ by kernel_rfl)
  | 23, _ => exact (show _ = _ by kernel_rfl)
  | n + 24, h => exact absurd h (by omega)
def vcL (xs : List Int) : List Int := if xs.length = 24 then xs else z24
theorem vcL_len (xs : List Int) : (vcL xs).length = 24 := by
  unfold vcL
  split
  · assumption
  · rfl
theorem vcL_yes {xs : List Int} (h : xs.length = 24) : vcL xs = xs := if_pos h
theorem vcL_no {xs : List Int} (h : xs.length ≠ 24) : vcL xs = z24 := if_neg h
theorem vecB_no {xs : List Int} (h : xs.length ≠ 24) : vecB xs = false := by simp [vecB, h]
theorem load_vec (g : Nat) (VX : Array Value) (hi : (Try.prog.info? 30).map (·.size) = some VX.size) (w : World) (hS : w.heap[g]? = some (.cells VX 30 (0, 0))) :
    (Instr.loadAt 30 (.pointer (some ⟨g, 0, none⟩))).run Try.prog w = .ok (.agg VX) w := by
  simp only [Instr.loadAt, Instr.sureAddr, Sem.run_bind, Sem.run_pure, Result.andThen_ok, run_loadVar_row w g 30 30 VX (0, 0) _ hS Try.underlying30 rfl hi]
set_option maxRecDepth 100000 in
set_option maxHeartbeats 1000000 in
theorem within_calls (xs : List Int) (w : World) (hl : xs.length = 24) :
    Calls Try.prog 18 #[.agg (VL xs)] w fun e w' => e = .returned (.bool (vecB xs)) ∧ Below w.heap.size w w' := by
  have HIX := Lib.hid (fun k hk W => vdx24 xs hl k hk W)
  have HNO := Lib.hid (okTo_no xs)
  have HALL := Lib.hid (okTo_all xs hl)
  have HX := Lib.hid (vcInfoL xs hl)
  have HN := Lib.hid (Blk.new w 30 (VL xs))
  have HB := Lib.hid ((Below.refl w.heap.size w).alloc (Nat.le_refl _) (.cells (VL xs) 30))
  generalize hV : VL xs = V at *
  clear hl hV
  go_enter Try.func18, Try.ntmps18
  go_wp2_with (refine wpList_load_row rfl 30 _ rfl w.heap.size rfl 30 V (0, 0) _ HN.out Try.underlying30 rfl HX.out ?_)
  go_loopw [6] (fun i wr => ∃ p : Nat, p ≤ 24 ∧ i = .int .i64 p ∧ Hid (okTo xs p = true) ∧ w.alloc (.cells V 30) = wr) (fun i _ => 24 - (intOf i).toNat)
  case atStart => exact ⟨0, by omega, rfl, Lib.hid rfl, rfl⟩
  case round =>
    obtain ⟨p, hp, rfl, ho, hww⟩ := hrel
    subst hww
    by_cases hlt : p < 24
    · have hp1 : (0 : Int) ≤ (p : Int) := by omega
      have hp2 : (p : Int) < 24 := by omega
      have hix := HIX.out p hlt
      have HNP := Lib.hid (HNO.out p)
      have HS := Lib.hid (show okN (atL xs p) = true → okTo xs (p + 1) = true by intro h; rw [okTo, ho.out, h]; rfl)
      generalize atL xs p = x at *
      by_cases h1 : x < -100000
      · have HN2 := Lib.hid (HNP.out (by simp [okN]; omega))
        go_wp2_with fail
        go_ret
        exact ⟨by rw [HN2.out]; rfl, HB.out⟩
      · by_cases h2 : 100000 < x
        · have HN2 := Lib.hid (HNP.out (by simp [okN]; omega))
          go_wp2_with fail
          go_ret
          exact ⟨by rw [HN2.out]; rfl, HB.out⟩
        · have HN2 := Lib.hid (HS.out (by simp [okN]; omega))
          go_wp2_with fail
          go_roundw
          case rel => exact ⟨p + 1, by omega, by go_num, HN2, by first | exact rfl | trivial⟩
          case measure => simp [intOf]; omega
    · obtain rfl : p = 24 := by omega
      have HO := Lib.hid (show vecB xs = true by rw [← HALL.out]; exact ho.out)
      go_wp2_with fail
      go_ret
      exact ⟨by rw [HO.out]; rfl, HB.out⟩
theorem vfoInt : (Try.prog.info? 3).map (·.size) = some 1 := by kernel_rfl
theorem vz24_info : (Try.prog.info? 30).map (·.size) = some (VL z24).size := vcInfoL z24 rfl
set_option maxRecDepth 100000 in
set_option maxHeartbeats 2000000 in
theorem vecFrom_no (A : Option Addr) (c : Nat) (xs : List Int) (w : World) (hx : xs.length ≤ maxLen) (hl : xs.length ≠ 24) :
    Calls Try.prog 12 #[.slice A xs.length c] w fun e w' => e = .returned (.tuple #[.agg (VL z24), .bool false]) ∧ Below w.heap.size w w' := by
  have hl1 : ((xs.length : Int) != 24) = true := by simp; omega
  have HZ := Lib.hid (Blk.new w 30 (VL z24))
  have HB := Lib.hid ((Below.refl w.heap.size w).alloc (Nat.le_refl _) (.cells (VL z24) 30))
  clear hl hx
  generalize xs.length = n at *
  go_enter Try.func12, Try.ntmps12
  go_wp2_with (refine wpList_store_row rfl 30 _ _ rfl w.heap.size (VL z24) rfl rfl 30 (VL z24) HZ.out vz24_info rfl (VL_all _) ?_)
  exact bodyPost_ret (results_ct rfl rfl rfl (setRow_heap _ _ _ _ _ _ HZ.out : Blk _ _ _ _) Try.underlying30 rfl vz24_info) rfl ⟨rfl, bel_row HB.out (Nat.le_refl _)⟩
set_option maxRecDepth 100000 in
set_option maxHeartbeats 2000000 in
theorem vecFrom_yes (A : Option Addr) (c : Nat) (xs : List Int) (w : World) (ha : Rds w w.heap.size .i64 A xs) (hx : xs.length ≤ maxLen) (hl : xs.length = 24) :
    Calls Try.prog 12 #[.slice A xs.length c] w fun e w' => e = .returned (.tuple #[.agg (VL xs), .bool (vecB xs)]) ∧ Below w.heap.size w w' := by
  have HR := Lib.hid (fun (W : World) (h : Below w.heap.size w W) => (show Rds W w.heap.size .i64 A xs from ha.below h))
  have H2 := two_heapV w (.cells (VL z24) 30) (.cells (VL z24) 30)
  have HW := Lib.hid (fun W => within_calls xs W hl)
  have HX := Lib.hid (vcInfoL xs hl)
  have HALL := Lib.hid (VL_all xs)
  have HVZ := Lib.hid (show (VL xs).size = 24 by rw [VL_size, hl])
  have hl1 : ((xs.length : Int) != 24) = false := by simp [hl]
  have HPOS := Lib.hid (fun (W : World) (h : Below w.heap.size w W) => show ∃ ad, A = some ad ∧ ∀ j v, (vals .i64 xs)[j]? = some v → W.cell? (ad.add j) = some v by
    have hr := ha.below h
    rcases hr with h0 | ⟨b, o, rfl, h2, h3⟩
    · rw [h0] at hl; simp at hl
    · refine ⟨_, rfl, fun j v hj => ?_⟩
      have hjl : j < xs.length := by
        have := (List.getElem?_eq_some_iff.1 hj).1
        rwa [vals_len] at this
      rw [vals_get .i64 xs j hjl] at hj
      cases hj
      have := h3 j hjl
      unfold Addr.add
      by_cases hj0 : j = 0
      · subst hj0; simpa using this
      · simpa [hj0] using this)
  have HNN := Lib.hid hl
  have HSPL := Lib.hid (show splice (vals .i64 z24) 0 (vals .i64 xs) = vals .i64 xs by
    unfold splice
    rw [List.take_zero, List.nil_append, List.drop_of_length_le (by rw [vals_len, vals_len, hl]; decide), List.append_nil])
  have HV1 := Lib.hid (show ∀ v ∈ vals .i64 xs, v.oneCell' = true by
    intro v hv
    simp only [vals, List.mem_map] at hv
    obtain ⟨a, _, rfl⟩ := hv
    rfl)
  have hn : ∃ n, n = xs.length := ⟨_, rfl⟩
  clear ha hx hl
  obtain ⟨n, hn⟩ := hn
  have HN := Lib.hid hn
  rw [← hn] at HNN hl1 ⊢
  clear hn
  have H20 := Lib.hid H2.1
  have H21 := Lib.hid H2.2.1
  have H2B := Lib.hid H2.2.2
  clear H2
  have HVV : Hid (VL xs = VL xs) := Lib.hid rfl
  obtain ⟨VX, hVX⟩ : ∃ VX, VL xs = VX := ⟨_, rfl⟩
  rw [hVX] at HX HALL HVZ HW ⊢
  have HVX := Lib.hid hVX
  clear HVV hVX
  generalize vecB xs = b at *
  go_enter Try.func12, Try.ntmps12
  go_wp2_with (first
    | (refine wpList_copy_splice rfl _ _ 22 22 rfl 3 Try.underlying22 vfoInt _ _ 24 24 n c rfl rfl (w.heap.size + 1) 0 (vals .i64 z24) 30 (by exact H21.out) (vals .i64 xs) (by rw [vals_len, ← HN.out, HNN.out]; rfl) (fun _ => ⟨rfl, HPOS.out _ H2B.out⟩) (by rw [vals_len, ← HN.out, HNN.out]; decide) (HV1.out) (w.heap.size + 1) _ (Below.refl _ _) (Nat.le_refl _) ?_; intro w2 hg2 hb2; (have HG2 : Hid (w2.heap[w.heap.size + 1]? = some (.cells VX 30 (0, 0))) := Lib.hid (by have h1 := hg2.out; rw [HSPL.out] at h1; rw [← HVX.out]; exact h1)); (have HZ3 : Hid (Blk w2 w.heap.size 30 (VL z24)) := Lib.hid ((hb2.block w.heap.size (by omega)).trans H20.out)); (have HB3 := Lib.hid (H2B.out.trans (hb2.mono (by omega)))); clear hg2 hb2))
  refine wp_region_held_drew (S := fun W => W.heap[w.heap.size + 1]? = some (Obj.cells VX 30 (0, 0)) ∧ (W.heap[w.heap.size]? = some (Obj.cells (VL z24) 30 (0, 0)) ∨ W.heap[w.heap.size]? = some (Obj.cells VX 30 (0, 0))) ∧ Below w.heap.size w W) (by kernel_rfl) ⟨HG2.out, .inl HZ3.out, HB3.out.drew⟩ (fun hd => ?_)
  refine wpAnyH_take (i := 0) (v := .agg VX) rfl (by kernel_rfl) (by kernel_rfl) (by kernel_rfl) (fun _ _ _ h => h) (Or.inl ⟨by kernel_rfl, fun w hS => by have hrow := load_vec _ VX HX.out w hS.1; change Sem.run Try.prog (Instr.loadAt 30 (.pointer (some ⟨_, 0, none⟩)) >>= fun x => pure (Next.value x)) w = _; rw [Sem.run_bind, hrow]; rfl⟩) hd ?_
  change wpAnyH _ _ _ _ _ _ _ (Act.put _ (some 12) (.agg VX)) _
  simp only [Act.put, List.setIfInBounds_toArray, List.set_cons_zero, List.set_cons_succ]
  refine wpAnyH_take (i := 1) (v := .agg VX) rfl (by kernel_rfl) (by kernel_rfl) (by kernel_rfl) (fun _ _ _ h => h) (Or.inl ⟨by kernel_rfl, fun w hS => by have hrow := load_vec _ VX HX.out w hS.1; change Sem.run Try.prog (Instr.loadAt 30 (.pointer (some ⟨_, 0, none⟩)) >>= fun x => pure (Next.value x)) w = _; rw [Sem.run_bind, hrow]; rfl⟩) hd ?_
  change wpAnyH _ _ _ _ _ _ _ (Act.put _ (some 13) (.agg VX)) _
  simp only [Act.put, List.setIfInBounds_toArray, List.set_cons_zero, List.set_cons_succ]
  refine wpAnyH_ready (rs := [2]) (by kernel_rfl) (by simp) ?_
  refine AllReadyH.cons rfl (fun K hK => ?_) AllReadyH.nil
  go_simp
  go_at_call 18
  refine (HW.out _).mono ?_
  rintro e w5 ⟨rfl, b5⟩
  have hlt1 := (Array.getElem?_eq_some_iff.1 hd.1).1
  have hd5 : (fun W => W.heap[w.heap.size + 1]? = some (Obj.cells VX 30 (0, 0)) ∧ (W.heap[w.heap.size]? = some (Obj.cells (VL z24) 30 (0, 0)) ∨ W.heap[w.heap.size]? = some (Obj.cells VX 30 (0, 0))) ∧ Below w.heap.size w W) w5 := ⟨(b5.block _ hlt1).trans hd.1, hd.2.1.imp (fun h => (b5.block _ (Array.getElem?_eq_some_iff.1 h).1).trans h) (fun h => (b5.block _ (Array.getElem?_eq_some_iff.1 h).1).trans h), hd.2.2.trans (b5.mono hd.2.2.size)⟩
  clear b5
  refine hK.out _ _ hd5 (fun _ => ?_)
  clear hK
  refine wpAnyH_ready (rs := [3]) (by kernel_rfl) (by simp) ?_
  refine AllReadyH.cons rfl (fun K hK => ?_) AllReadyH.nil
  have hlt8 : ∃ old, old.size = 24 ∧ (w5).heap[w.heap.size]? = some (Obj.cells old 30 (0, 0)) := by
    rcases hd5.2.1 with h | h
    · exact ⟨_, rfl, h⟩
    · exact ⟨_, HVZ.out, h⟩
  obtain ⟨old, ho1, ho2⟩ := hlt8
  rw [if_pos (by rfl)]
  refine wp_store_row 30 _ _ rfl w.heap.size VX rfl rfl 30 old ho2 HX.out (by rw [ho1, HVZ.out]) HALL.out ?_
  have hd6 := setRow_heap _ _ _ VX _ _ ho2
  have hd7 := (setRow_other (w5) w.heap.size (w.heap.size + 1) VX (by omega)).trans hd5.1
  have hd8 : Below w.heap.size w ((w5).setRow w.heap.size VX) := bel_row hd5.2.2 (Nat.le_refl _)
  refine hK.out _ _ ⟨hd7, .inr hd6, hd8⟩ (fun _ => ?_)
  clear hK
  have hd9 : (fun W => W.heap[w.heap.size + 1]? = some (Obj.cells VX 30 (0, 0)) ∧ (W.heap[w.heap.size]? = some (Obj.cells (VL z24) 30 (0, 0)) ∨ W.heap[w.heap.size]? = some (Obj.cells VX 30 (0, 0))) ∧ Below w.heap.size w W) (w5.setRow w.heap.size VX) := ⟨hd7, .inr hd6, hd8⟩
  refine wpAnyH_take (i := 4) (v := .bool b) rfl (by kernel_rfl) (by kernel_rfl) (by kernel_rfl) (fun _ _ _ h => h) (Or.inl ⟨by kernel_rfl, fun w hS => by go_simp⟩) hd9 ?_
  change wpAnyH _ _ _ _ _ _ _ (Act.put _ (some 3) (.bool b)) _
  simp only [Act.put, List.setIfInBounds_toArray, List.set_cons_zero, List.set_cons_succ]
  refine wpAnyH_done (by kernel_rfl) ?_ _
  go_wp2_with fail
  exact bodyPost_ret (results_ct rfl rfl rfl (hd6 : Blk _ _ _ _) Try.underlying30 rfl HX.out) rfl ⟨rfl, hd8⟩
theorem vecFrom_calls (A : Option Addr) (c : Nat) (xs : List Int) (w : World) (ha : Rds w w.heap.size .i64 A xs) (hx : xs.length ≤ maxLen) :
    Calls Try.prog 12 #[.slice A xs.length c] w fun e w' => e = .returned (.tuple #[.agg (VL (vcL xs)), .bool (vecB xs)]) ∧ Below w.heap.size w w' := by
  by_cases h : xs.length = 24
  · rw [vcL_yes h]; exact vecFrom_yes A c xs w ha hx h
  · rw [vcL_no h, vecB_no h]; exact vecFrom_no A c xs w hx h
end Go.Proofs.Ytiodikflmijhkaa
