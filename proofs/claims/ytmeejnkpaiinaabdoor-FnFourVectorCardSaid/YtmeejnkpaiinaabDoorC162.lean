/- Two vectors of the program: read, inner products; LatticeInner. -/
import Derived.Test.YtmeejnkpaiinaabDoorC161
namespace Go.Proofs.YtmeejnkpaiinaabDoor
open Go.RowKit
set_option linter.unusedVariables false
set_option linter.unusedSimpArgs false
attribute [local irreducible] cN syn

set_option maxRecDepth 100000 in
set_option maxHeartbeats 1000000 in
theorem inner_calls (xs ys : List Int) (w : World) (hx : vecB xs = true) (hy : vecB ys = true) :
    Calls Tryd.prog 41 #[.agg (VL xs), .agg (VL ys)] w fun e w' => e = .returned (.int .i64 (innL xs ys)) ∧ Below w.heap.size w w' := by
  have HIY := Lib.hid (fun k hk W => vdx24 ys (vecB_len hy) k hk W)
  have HPR := Lib.hid (fun k => prod_rng (vecB_rng hx k) (vecB_rng hy k))
  have HR := Lib.hid (fun k hk => inn_rng hx hy k hk)
  obtain ⟨S, hS⟩ : ∃ S : Nat → Int, (fun k => sumZ k (fun p => atL xs p * atL ys p)) = S := ⟨_, rfl⟩
  have hSk : ∀ k, sumZ k (fun p => atL xs p * atL ys p) = S k := fun k => by rw [← hS]
  have HSS := Lib.hid (fun k => show S k + atL xs k * atL ys k = S (k + 1) by rw [← hSk, ← hSk]; rfl)
  have HS0 := Lib.hid (show S 0 = 0 by rw [← hSk]; rfl)
  have HE := Lib.hid (show innL xs ys = S 24 from hSk 24)
  simp only [hSk] at HR
  have H2 := two_heapV w (.cells (VL xs) 48) (.cells (VL ys) 48)
  have HC := Lib.hid (fun k (hk : k < 24) => show ((w.alloc (.cells (VL xs) 48)).alloc (.cells (VL ys) 48)).cell? ⟨w.heap.size, k, none⟩ = some (.int .i64 (atL xs k)) from VL_at xs (by rw [vecB_len hx]; exact hk) H2.1)
  have H21 := Lib.hid H2.2.1
  have H2B := Lib.hid H2.2.2
  have HX := Lib.hid (vcInfoL ys (vecB_len hy))
  generalize hV : VL xs = V at *
  generalize hV2 : VL ys = V2 at *
  clear hx hy hV hV2 hS hSk H2
  go_enter Tryd.func41, Tryd.ntmps41
  go_wp2_with (refine wpList_load_row rfl 48 _ rfl (w.heap.size + 1) rfl 48 V2 (0, 0) _ H21.out Tryd.underlying48 rfl HX.out ?_)
  go_loopw [5, 9] (fun s i wr => ∃ p : Nat, p ≤ 24 ∧ i = .int .i64 p ∧ s = .int .i64 (S p) ∧ (w.alloc (.cells V 48)).alloc (.cells V2 48) = wr) (fun _ i _ => 24 - (intOf i).toNat)
  case atStart => exact ⟨0, by omega, rfl, by rw [HS0.out], rfl⟩
  case round =>
    obtain ⟨p, hp, rfl, rfl, hww⟩ := hrel
    subst hww
    by_cases hlt : p < 24
    · have hp1 : (0 : Int) ≤ (p : Int) := by omega
      have hp2 : (p : Int) < 24 := by omega
      have hiy := HIY.out p hlt
      have hcx := HC.out p hlt
      have hpr := HPR.out p
      have h1 := HR.out p (by omega)
      have h2 := HR.out (p + 1) (by omega)
      have HS := Lib.hid (HSS.out p)
      obtain ⟨T, hT⟩ : ∃ T, S (p + 1) = T := ⟨_, rfl⟩
      rw [hT] at HS h2
      have HT := Lib.hid hT
      clear hT
      generalize S p = s at *
      generalize atL xs p = x at *
      generalize atL ys p = y at *
      have hw1 : wrap64 (x * y) = x * y := wrap64_of _ (by omega) (by omega)
      have hw2 : wrap64 (s + x * y) = s + x * y := wrap64_of _ (by have := HS.out; omega) (by have := HS.out; omega)
      go_wp2_with fail
      go_roundw
      case rel => exact ⟨p + 1, by omega, by go_num, by rw [HT.out, ← HS.out], by first | exact rfl | trivial⟩
      case measure => simp [intOf]; omega
    · obtain rfl : p = 24 := by omega
      go_wp2_with fail
      go_ret
      exact ⟨by rw [HE.out]; rfl, H2B.out⟩
def tw (xs ys zs : List Int) : List Int := if vecB xs && vecB ys then zs else z24
theorem tw_len (xs ys zs : List Int) (h : vecB xs = true → vecB ys = true → zs.length = 24) : (tw xs ys zs).length = 24 := by
  unfold tw
  cases h1 : vecB xs
  · rfl
  · cases h2 : vecB ys
    · rfl
    · exact h h1 h2
set_option maxRecDepth 100000 in
set_option maxHeartbeats 4000000 in
theorem twoFrom_calls (A A2 : Option Addr) (c c2 : Nat) (xs ys : List Int) (w : World) (ha : Rds w w.heap.size .i64 A xs) (hx : xs.length ≤ maxLen) (ha2 : Rds w w.heap.size .i64 A2 ys) (hy : ys.length ≤ maxLen) :
    Calls Tryd.prog 40 #[.slice A xs.length c, .slice A2 ys.length c2] w fun e w' => e = .returned (.tuple #[.agg (VL (tw xs ys xs)), .agg (VL (tw xs ys ys)), .bool (vecB xs && vecB ys)]) ∧ Below w.heap.size w w' := by
  have HF := Lib.hid (fun (W : World) (h : Below w.heap.size w W) => vecFrom_calls A c xs W ((ha.below h).more h.size) hx)
  have HI := Lib.hid (vcInfoL (vcL xs) (vcL_len xs))
  have HSZ := Lib.hid (show (VL z24).size = (VL (vcL xs)).size by rw [VL_size, VL_size, vcL_len]; rfl)
  have HALL := Lib.hid (VL_all (vcL xs))
  have HF2 := Lib.hid (fun (W : World) (h : Below w.heap.size w W) => vecFrom_calls A2 c2 ys W ((ha2.below h).more h.size) hy)
  have HI2 := Lib.hid (vcInfoL (vcL ys) (vcL_len ys))
  have HSZ2 := Lib.hid (show (VL z24).size = (VL (vcL ys)).size by rw [VL_size, VL_size, vcL_len]; rfl)
  have HALL2 := Lib.hid (VL_all (vcL ys))
  have H2 := two_heapV w (.cells (VL z24) 48) (.cells (VL z24) 48)
  have H20 := Lib.hid H2.1
  have H21 := Lib.hid H2.2.1
  have H2B := Lib.hid H2.2.2
  clear H2
  rcases hb : vecB xs with _ | _
  · rw [show tw xs ys xs = z24 by simp [tw, hb], show tw xs ys ys = z24 by simp [tw, hb], Bool.false_and]
    rw [hb] at HF
    clear ha hx ha2 hy hb HF2 HI2 HSZ2 HALL2
    generalize xs.length = n at *
    generalize ys.length = n2 at *
    generalize VL (vcL xs) = V at *
    go_enter Tryd.func40, Tryd.ntmps40
    go_wp2_with fail
    refine (HF.out _ H2B.out).mono ?_
    rintro e w1 ⟨rfl, b1⟩
    have G10 := Lib.hid ((b1.block w.heap.size (Array.getElem?_eq_some_iff.1 H20.out).1).trans H20.out)
    have G11 := Lib.hid ((b1.block (w.heap.size + 1) (Array.getElem?_eq_some_iff.1 H21.out).1).trans H21.out)
    have B1 := Lib.hid (H2B.out.trans (b1.mono H2B.out.size))
    have HLT1 := Lib.hid (Array.getElem?_eq_some_iff.1 G11.out).1
    have N1 := Lib.hid (Blk.new w1 48 (VL z24))
    clear b1
    have A0 := Lib.hid ((setRow_other (w1.alloc (.cells (VL z24) 48)) w1.heap.size w.heap.size V (by have := HLT1.out; omega)).trans ((Below.heap_alloc _ _ _ (by have := HLT1.out; omega)).trans G10.out))
    have A1 := Lib.hid ((setRow_other (w1.alloc (.cells (VL z24) 48)) w1.heap.size (w.heap.size + 1) V (by have := HLT1.out; omega)).trans ((Below.heap_alloc _ _ _ (by have := HLT1.out; omega)).trans G11.out))
    have AF := Lib.hid (setRow_heap _ _ _ V _ _ N1.out)
    have AB := Lib.hid (bel_row (T := V) (B1.out.alloc B1.out.size (.cells (VL z24) 48)) B1.out.size)
    clear G10 G11
    have Z0 := Lib.hid (setRow_heap _ _ _ (VL z24) _ _ A0.out)
    have Z1 := Lib.hid ((setRow_other _ w.heap.size (w.heap.size + 1) (VL z24) (by omega)).trans A1.out)
    have ZB := Lib.hid (bel_row (T := VL z24) AB.out (Nat.le_refl _))
    go_wp2_with (first
      | (refine wpList_store_row rfl 48 _ _ rfl w1.heap.size V rfl rfl 48 (VL z24) N1.out HI.out HSZ.out HALL.out ?_)
      | (refine wpList_store_row rfl 48 _ _ rfl w.heap.size (VL z24) rfl rfl 48 (VL z24) A0.out vz24_info rfl (VL_all _) ?_)
      | (refine wpList_store_row rfl 48 _ _ rfl (w.heap.size + 1) (VL z24) rfl rfl 48 (VL z24) Z1.out vz24_info rfl (VL_all _) ?_))
    exact bodyPost_ret (results_cct rfl rfl rfl rfl ((setRow_other _ (w.heap.size + 1) w.heap.size (VL z24) (by omega)).trans Z0.out : Blk _ _ _ _) (setRow_heap _ _ _ (VL z24) _ _ Z1.out : Blk _ _ _ _) Tryd.underlying48 rfl vz24_info Tryd.underlying48 rfl vz24_info) rfl ⟨rfl, bel_row ZB.out (Nat.le_succ _)⟩
  rcases hb2 : vecB ys with _ | _
  · rw [show tw xs ys xs = z24 by simp [tw, hb2], show tw xs ys ys = z24 by simp [tw, hb2], Bool.and_false]
    rw [hb] at HF
    simp only [hb2] at HF2
    clear ha hx ha2 hy hb hb2
    generalize xs.length = n at *
    generalize ys.length = n2 at *
    generalize VL (vcL xs) = V at *
    generalize VL (vcL ys) = V2 at *
    go_enter Tryd.func40, Tryd.ntmps40
    go_wp2_with fail
    refine (HF.out _ H2B.out).mono ?_
    rintro e w1 ⟨rfl, b1⟩
    have G10 := Lib.hid ((b1.block w.heap.size (Array.getElem?_eq_some_iff.1 H20.out).1).trans H20.out)
    have G11 := Lib.hid ((b1.block (w.heap.size + 1) (Array.getElem?_eq_some_iff.1 H21.out).1).trans H21.out)
    have B1 := Lib.hid (H2B.out.trans (b1.mono H2B.out.size))
    have HLT1 := Lib.hid (Array.getElem?_eq_some_iff.1 G11.out).1
    have N1 := Lib.hid (Blk.new w1 48 (VL z24))
    clear b1
    have A0 := Lib.hid ((setRow_other (w1.alloc (.cells (VL z24) 48)) w1.heap.size w.heap.size V (by have := HLT1.out; omega)).trans ((Below.heap_alloc _ _ _ (by have := HLT1.out; omega)).trans G10.out))
    have A1 := Lib.hid ((setRow_other (w1.alloc (.cells (VL z24) 48)) w1.heap.size (w.heap.size + 1) V (by have := HLT1.out; omega)).trans ((Below.heap_alloc _ _ _ (by have := HLT1.out; omega)).trans G11.out))
    have AF := Lib.hid (setRow_heap _ _ _ V _ _ N1.out)
    have AB := Lib.hid (bel_row (T := V) (B1.out.alloc B1.out.size (.cells (VL z24) 48)) B1.out.size)
    clear G10 G11
    go_wp2_with (refine wpList_store_row rfl 48 _ _ rfl w1.heap.size V rfl rfl 48 (VL z24) N1.out HI.out HSZ.out HALL.out ?_)
    refine (HF2.out _ AB.out).mono ?_
    rintro e w2 ⟨rfl, b2⟩
    have C0 := Lib.hid ((b2.block w.heap.size (Array.getElem?_eq_some_iff.1 A0.out).1).trans A0.out)
    have C1 := Lib.hid ((b2.block (w.heap.size + 1) (Array.getElem?_eq_some_iff.1 A1.out).1).trans A1.out)
    have CF := Lib.hid ((b2.block w1.heap.size (Array.getElem?_eq_some_iff.1 AF.out).1).trans AF.out)
    have CB := Lib.hid (AB.out.trans (b2.mono AB.out.size))
    have HLT2 := Lib.hid (Array.getElem?_eq_some_iff.1 CF.out).1
    have N2 := Lib.hid (Blk.new w2 48 (VL z24))
    clear b2 A0 A1 AF AB N1
    have G0 := Lib.hid ((setRow_other (w2.alloc (.cells (VL z24) 48)) w2.heap.size w.heap.size V2 (by have := HLT1.out; have := HLT2.out; omega)).trans ((Below.heap_alloc _ _ _ (by have := HLT1.out; have := HLT2.out; omega)).trans C0.out))
    have G1 := Lib.hid ((setRow_other (w2.alloc (.cells (VL z24) 48)) w2.heap.size (w.heap.size + 1) V2 (by have := HLT1.out; have := HLT2.out; omega)).trans ((Below.heap_alloc _ _ _ (by have := HLT1.out; have := HLT2.out; omega)).trans C1.out))
    have F1 := Lib.hid ((setRow_other (w2.alloc (.cells (VL z24) 48)) w2.heap.size w1.heap.size V2 (by have := HLT2.out; omega)).trans ((Below.heap_alloc _ _ _ (by have := HLT2.out; omega)).trans CF.out))
    have F2 := Lib.hid (setRow_heap _ _ _ V2 _ _ N2.out)
    have BB := Lib.hid (bel_row (T := V2) (CB.out.alloc CB.out.size (.cells (VL z24) 48)) CB.out.size)
    clear C0 C1 CF CB
    have Z0 := Lib.hid (setRow_heap _ _ _ (VL z24) _ _ G0.out)
    have Z1 := Lib.hid ((setRow_other _ w.heap.size (w.heap.size + 1) (VL z24) (by omega)).trans G1.out)
    have ZB := Lib.hid (bel_row (T := VL z24) BB.out (Nat.le_refl _))
    go_wp2_with (first
      | (refine wpList_store_row rfl 48 _ _ rfl w2.heap.size V2 rfl rfl 48 (VL z24) N2.out HI2.out HSZ2.out HALL2.out ?_)
      | (refine wpList_store_row rfl 48 _ _ rfl w.heap.size (VL z24) rfl rfl 48 (VL z24) G0.out vz24_info rfl (VL_all _) ?_)
      | (refine wpList_store_row rfl 48 _ _ rfl (w.heap.size + 1) (VL z24) rfl rfl 48 (VL z24) Z1.out vz24_info rfl (VL_all _) ?_))
    exact bodyPost_ret (results_cct rfl rfl rfl rfl ((setRow_other _ (w.heap.size + 1) w.heap.size (VL z24) (by omega)).trans Z0.out : Blk _ _ _ _) (setRow_heap _ _ _ (VL z24) _ _ Z1.out : Blk _ _ _ _) Tryd.underlying48 rfl vz24_info Tryd.underlying48 rfl vz24_info) rfl ⟨rfl, bel_row ZB.out (Nat.le_succ _)⟩
  · rw [show tw xs ys xs = xs by simp [tw, hb, hb2], show tw xs ys ys = ys by simp [tw, hb, hb2], Bool.and_self]
    rw [hb] at HF
    simp only [hb2] at HF2
    rw [vcL_yes (vecB_len hb)] at HF HI HSZ HALL
    rw [vcL_yes (vecB_len hb2)] at HI2 HSZ2 HALL2
    simp only [vcL_yes (vecB_len hb2)] at HF2
    clear ha hx ha2 hy hb hb2
    generalize xs.length = n at *
    generalize ys.length = n2 at *
    generalize VL xs = V at *
    generalize VL ys = V2 at *
    go_enter Tryd.func40, Tryd.ntmps40
    go_wp2_with fail
    refine (HF.out _ H2B.out).mono ?_
    rintro e w1 ⟨rfl, b1⟩
    have G10 := Lib.hid ((b1.block w.heap.size (Array.getElem?_eq_some_iff.1 H20.out).1).trans H20.out)
    have G11 := Lib.hid ((b1.block (w.heap.size + 1) (Array.getElem?_eq_some_iff.1 H21.out).1).trans H21.out)
    have B1 := Lib.hid (H2B.out.trans (b1.mono H2B.out.size))
    have HLT1 := Lib.hid (Array.getElem?_eq_some_iff.1 G11.out).1
    have N1 := Lib.hid (Blk.new w1 48 (VL z24))
    clear b1
    have A0 := Lib.hid ((setRow_other (w1.alloc (.cells (VL z24) 48)) w1.heap.size w.heap.size V (by have := HLT1.out; omega)).trans ((Below.heap_alloc _ _ _ (by have := HLT1.out; omega)).trans G10.out))
    have A1 := Lib.hid ((setRow_other (w1.alloc (.cells (VL z24) 48)) w1.heap.size (w.heap.size + 1) V (by have := HLT1.out; omega)).trans ((Below.heap_alloc _ _ _ (by have := HLT1.out; omega)).trans G11.out))
    have AF := Lib.hid (setRow_heap _ _ _ V _ _ N1.out)
    have AB := Lib.hid (bel_row (T := V) (B1.out.alloc B1.out.size (.cells (VL z24) 48)) B1.out.size)
    clear G10 G11
    go_wp2_with (refine wpList_store_row rfl 48 _ _ rfl w1.heap.size V rfl rfl 48 (VL z24) N1.out HI.out HSZ.out HALL.out ?_)
    refine (HF2.out _ AB.out).mono ?_
    rintro e w2 ⟨rfl, b2⟩
    have C0 := Lib.hid ((b2.block w.heap.size (Array.getElem?_eq_some_iff.1 A0.out).1).trans A0.out)
    have C1 := Lib.hid ((b2.block (w.heap.size + 1) (Array.getElem?_eq_some_iff.1 A1.out).1).trans A1.out)
    have CF := Lib.hid ((b2.block w1.heap.size (Array.getElem?_eq_some_iff.1 AF.out).1).trans AF.out)
    have CB := Lib.hid (AB.out.trans (b2.mono AB.out.size))
    have HLT2 := Lib.hid (Array.getElem?_eq_some_iff.1 CF.out).1
    have N2 := Lib.hid (Blk.new w2 48 (VL z24))
    clear b2 A0 A1 AF AB N1
    have G0 := Lib.hid ((setRow_other (w2.alloc (.cells (VL z24) 48)) w2.heap.size w.heap.size V2 (by have := HLT1.out; have := HLT2.out; omega)).trans ((Below.heap_alloc _ _ _ (by have := HLT1.out; have := HLT2.out; omega)).trans C0.out))
    have G1 := Lib.hid ((setRow_other (w2.alloc (.cells (VL z24) 48)) w2.heap.size (w.heap.size + 1) V2 (by have := HLT1.out; have := HLT2.out; omega)).trans ((Below.heap_alloc _ _ _ (by have := HLT1.out; have := HLT2.out; omega)).trans C1.out))
    have F1 := Lib.hid ((setRow_other (w2.alloc (.cells (VL z24) 48)) w2.heap.size w1.heap.size V2 (by have := HLT2.out; omega)).trans ((Below.heap_alloc _ _ _ (by have := HLT2.out; omega)).trans CF.out))
    have F2 := Lib.hid (setRow_heap _ _ _ V2 _ _ N2.out)
    have BB := Lib.hid (bel_row (T := V2) (CB.out.alloc CB.out.size (.cells (VL z24) 48)) CB.out.size)
    clear C0 C1 CF CB
    go_wp2_with (refine wpList_store_row rfl 48 _ _ rfl w2.heap.size V2 rfl rfl 48 (VL z24) N2.out HI2.out HSZ2.out HALL2.out ?_)
    obtain ⟨W3, hW3⟩ : ∃ W3, W3 = (w2.alloc (.cells (VL z24) 48)).setRow w2.heap.size V2 := ⟨_, rfl⟩
    change Code.wp _ _ _ _ ((w2.alloc (.cells (VL z24) 48)).setRow w2.heap.size V2)
    rw [← hW3]
    have G3 : W3.drew.heap[w.heap.size]? = some (.cells (VL z24) 48 (0, 0)) := by rw [hW3]; exact G0.out
    have G4 : W3.drew.heap[w.heap.size + 1]? = some (.cells (VL z24) 48 (0, 0)) := by rw [hW3]; exact G1.out
    have F3 : W3.drew.heap[w1.heap.size]? = some (.cells V 48 (0, 0)) := by rw [hW3]; exact F1.out
    have F4 : W3.drew.heap[w2.heap.size]? = some (.cells V2 48 (0, 0)) := by rw [hW3]; exact F2.out
    have BW3 : Below w.heap.size w W3.drew := by rw [hW3]; exact BB.out.drew
    clear hW3
    refine wp_region_held_drew (S := fun W => W.heap[w1.heap.size]? = some (Obj.cells V 48 (0, 0)) ∧ W.heap[w2.heap.size]? = some (Obj.cells V2 48 (0, 0))) (by kernel_rfl) ⟨F3, F4⟩ (fun hd => ?_)
    refine wpAnyH_take (i := 0) (v := .agg V) rfl (by kernel_rfl) (by kernel_rfl) (by kernel_rfl) (fun _ _ _ h => h) (Or.inl ⟨by kernel_rfl, fun w hS => by have hrow := load_vec _ V HI.out w hS.1; change Sem.run Tryd.prog (Instr.loadAt 48 (.pointer (some ⟨_, 0, none⟩)) >>= fun x => pure (Next.value x)) w = _; rw [Sem.run_bind, hrow]; rfl⟩) hd ?_
    change wpAnyH _ _ _ _ _ _ _ (Act.put _ (some 28) (.agg V)) _
    simp only [Act.put, List.setIfInBounds_toArray, List.set_cons_zero, List.set_cons_succ]
    refine wpAnyH_take (i := 1) (v := .agg V2) rfl (by kernel_rfl) (by kernel_rfl) (by kernel_rfl) (fun _ _ _ h => h) (Or.inl ⟨by kernel_rfl, fun w hS => by have hrow := load_vec _ V2 HI2.out w hS.2; change Sem.run Tryd.prog (Instr.loadAt 48 (.pointer (some ⟨_, 0, none⟩)) >>= fun x => pure (Next.value x)) w = _; rw [Sem.run_bind, hrow]; rfl⟩) hd ?_
    change wpAnyH _ _ _ _ _ _ _ (Act.put _ (some 29) (.agg V2)) _
    simp only [Act.put, List.setIfInBounds_toArray, List.set_cons_zero, List.set_cons_succ]
    refine wpAnyH_ready (rs := [2]) (by kernel_rfl) (by simp) ?_
    refine AllReadyH.cons rfl (fun K hK => ?_) AllReadyH.nil
    have l1 : w.heap.size + 1 < w1.heap.size := HLT1.out
    have l2 : w1.heap.size < w2.heap.size := HLT2.out
    rw [if_pos (by rfl)]
    refine wp_store_row 48 _ _ rfl w.heap.size V rfl rfl 48 (VL z24) G3 HI.out HSZ.out HALL.out ?_
    have k1 := setRow_heap _ _ _ V _ _ G3
    have k2 := (setRow_other W3.drew w.heap.size (w.heap.size + 1) V (by omega)).trans G4
    have k3 := (setRow_other W3.drew w.heap.size w1.heap.size V (by omega)).trans hd.1
    have k4 := (setRow_other W3.drew w.heap.size w2.heap.size V (by omega)).trans hd.2
    have k5 := bel_row (T := V) BW3 (Nat.le_refl _)
    refine hK.out _ _ ⟨k3, k4⟩ (fun hd9 => ?_)
    clear hK
    refine wpAnyH_ready (rs := [3]) (by kernel_rfl) (by simp) ?_
    refine AllReadyH.cons rfl (fun K hK => ?_) AllReadyH.nil
    rw [if_pos (by rfl)]
    refine wp_store_row 48 _ _ rfl (w.heap.size + 1) V2 rfl rfl 48 (VL z24) k2 HI2.out HSZ2.out HALL2.out ?_
    have j1 := setRow_heap _ _ _ V2 _ _ k2
    have j2 := (setRow_other (W3.drew.setRow w.heap.size V) (w.heap.size + 1) w.heap.size V2 (by omega)).trans k1
    have j3 := (setRow_other (W3.drew.setRow w.heap.size V) (w.heap.size + 1) w1.heap.size V2 (by omega)).trans k3
    have j4 := (setRow_other (W3.drew.setRow w.heap.size V) (w.heap.size + 1) w2.heap.size V2 (by omega)).trans k4
    have j5 := bel_row (T := V2) k5 (Nat.le_succ w.heap.size)
    have hd10 : (fun W => W.heap[w1.heap.size]? = some (Obj.cells V 48 (0, 0)) ∧ W.heap[w2.heap.size]? = some (Obj.cells V2 48 (0, 0))) ((W3.drew.setRow w.heap.size V).setRow (w.heap.size + 1) V2) := ⟨j3, j4⟩
    refine hK.out _ _ hd10 (fun _ => ?_)
    clear hK
    refine wpAnyH_take (i := 4) (v := .bool true) rfl (by kernel_rfl) (by kernel_rfl) (by kernel_rfl) (fun _ _ _ h => h) (Or.inl ⟨by kernel_rfl, fun w hS => by go_simp⟩) hd10 ?_
    change wpAnyH _ _ _ _ _ _ _ (Act.put _ (some 6) (.bool true)) _
    simp only [Act.put, List.setIfInBounds_toArray, List.set_cons_zero, List.set_cons_succ]
    refine wpAnyH_done (by kernel_rfl) ?_ _
    go_wp2_with fail
    exact bodyPost_ret (results_cct rfl rfl rfl rfl (j2 : Blk _ _ _ _) (j1 : Blk _ _ _ _) Tryd.underlying48 rfl HI.out Tryd.underlying48 rfl HI2.out) rfl ⟨rfl, j5⟩
end Go.Proofs.YtmeejnkpaiinaabDoor
