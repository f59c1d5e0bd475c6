/- Vectors of the model: LatticeIn, LatticeAdd. -/
import Derived.Test.YtmeejnkpaiinaabDoorC165
import Derived.Deep.RegionHeld3
import Derived.Deep.AppendLies
namespace Go.Proofs.YtmeejnkpaiinaabDoor
open Go.RowKit
set_option linter.unusedVariables false
set_option linter.unusedSimpArgs false
attribute [local irreducible] cN syn

theorem tmod_b (n b : Int) (hb : b = 2 ∨ b = 4 ∨ b = 8) : -b < n.tmod b ∧ n.tmod b < b ∧ (n.tmod b + b).tmod b = n % b := by
  have hp : ∀ m : Int, 0 ≤ m → m.tmod b = m % b := fun m h => Int.tmod_eq_emod_of_nonneg h
  have h1 : -b < n.tmod b ∧ n.tmod b < b ∧ ((n.tmod b) - n) % b = 0 := by
    by_cases h : 0 ≤ n
    · rw [hp n h]; rcases hb with rfl | rfl | rfl <;> omega
    · have e : n.tmod b = -((-n) % b) := by rw [← hp (-n) (by omega), Int.neg_tmod, Int.neg_neg]
      rw [e]; rcases hb with rfl | rfl | rfl <;> omega
  refine ⟨h1.1, h1.2.1, ?_⟩
  rw [hp _ (by omega)]
  rcases hb with rfl | rfl | rfl <;> omega
theorem l9Rest_calls (n b : Int) (w : World) (hb : b = 2 ∨ b = 4 ∨ b = 8) :
    Calls Tryd.prog 38 #[.int .i64 n, .int .i64 b] w fun e w' => e = .returned (.int .i64 (n % b)) ∧ w = w' := by
  obtain ⟨t0, t1, t2⟩ := tmod_b n b hb
  have hw1 : wrap64 (n.tmod b) = n.tmod b := wrap64_of _ (by omega) (by omega)
  have hw2 : wrap64 (n.tmod b + b) = n.tmod b + b := wrap64_of _ (by omega) (by omega)
  have hw3 : wrap64 (n % b) = n % b := wrap64_of _ (by rcases hb with rfl | rfl | rfl <;> omega) (by rcases hb with rfl | rfl | rfl <;> omega)
  have hb0 : (b == 0) = false := by rcases hb with rfl | rfl | rfl <;> rfl
  have hb1 : b ≠ 0 := by omega
  clear hb t0 t1
  go_enter Tryd.func38, Tryd.ntmps38
  go_wp2
  go_ret
  exact ⟨rfl, rfl⟩
def z4L : List Int := [0, 0, 0, 0]
theorem ar4Info : (Tryd.prog.info? 52).map (·.size) = some (VL z4L).size := by kernel_rfl
theorem shl_wrap (k R : Nat) (h : k < 24) (hR : R < 16777216) : IntKind.i64.wrap ((2 : Int) ^ k) = ((2 ^ k : Nat) : Int) ∧ wrap64 ((2 : Int) ^ k) = ((2 ^ k : Nat) : Int) ∧ IntKind.i64.wrap ((R : Int) + ((2 ^ k : Nat) : Int)) = (R : Int) + ((2 ^ k : Nat) : Int) ∧ wrap64 ((R : Int) + ((2 ^ k : Nat) : Int)) = (R : Int) + ((2 ^ k : Nat) : Int) := by
  have h2 : 2 ^ k < 2 ^ 24 := Nat.pow_lt_pow_right (by decide) h
  rw [show (2 : Nat) ^ 24 = 16777216 by decide] at h2
  rw [show (2 : Int) ^ k = ((2 ^ k : Nat) : Int) by push_cast; rfl]
  generalize (2 : Nat) ^ k = p at *
  exact ⟨wrap_i64_of _ (by omega) (by omega), wrap64_of _ (by omega) (by omega), wrap_i64_of _ (by omega) (by omega), wrap64_of _ (by omega) (by omega)⟩
set_option maxRecDepth 100000 in
set_option maxHeartbeats 4000000 in
theorem sLatticeIn_calls (A : Option Addr) (c : Nat) (xs : List Int) (w : World) (ha : Rds w w.heap.size .i64 A xs) (hx : xs.length ≤ maxLen) :
    Calls Tryd.prog 12 #[.slice A xs.length c] w fun e w' => e = .returned (.bool (latB xs)) ∧ Below w.heap.size w w' := by
  have HV := Lib.hid (sVectorValid_calls A c xs w ha hx)
  rcases hb : vecB xs with _ | _
  · rw [show latB xs = false by simp [latB, hb]]
    rw [hb] at HV
    clear ha hx hb
    generalize xs.length = n at *
    go_enter Tryd.func12, Tryd.ntmps12
    go_wp2_with fail
    refine HV.out.mono ?_
    rintro e w' ⟨rfl, rfl⟩
    go_wp2_with fail
    go_ret
    exact ⟨rfl, Below.refl _ _⟩
  · rw [show latB xs = modF (atL xs) by simp [latB, hb, modF_is]]
    have HS := Lib.hid (fun k => sumV_rng hb k)
    have HL := Lib.hid (vecB_len hb)
    have HW4 := Lib.hid (fun k => w4_set (atL xs) k)
    have HRN := Lib.hid (fun r k (hk : k ≤ 24) => show restN (atL xs) r k < 16777216 from Nat.lt_of_lt_of_le (restN_lt (atL xs) r k) (by rw [show 16777216 = 2 ^ 24 by decide]; exact Nat.pow_le_pow_right (by decide) hk))
    have HW0 := Lib.hid (show w4 (atL xs) 0 = z4L from rfl)
    have HMF := Lib.hid (show modF (atL xs) = if atL xs 0 % 2 = 0 then decide (restN (atL xs) 1 24 = 0) && decide (restN (atL xs) 3 24 = 0) && (codeInB (restN (atL xs) 0 24 : Nat) && codeInB (restN (atL xs) 2 24 : Nat) && decide (sumZ 24 (atL xs) % 8 = 0))
      else decide (restN (atL xs) 0 24 = 0) && decide (restN (atL xs) 2 24 = 0) && (codeInB (restN (atL xs) 1 24 : Nat) && codeInB (restN (atL xs) 3 24 : Nat) && decide (sumZ 24 (atL xs) % 8 = 4)) from rfl)
    obtain ⟨S, hS⟩ : ∃ S : Nat → Int, (fun k => sumZ k (atL xs)) = S := ⟨_, rfl⟩
    have hSk : ∀ k, sumZ k (atL xs) = S k := fun k => by rw [← hS]
    have HSS := Lib.hid (fun k => show S k + atL xs k = S (k + 1) by rw [← hSk, ← hSk]; rfl)
    have HS0 := Lib.hid (show S 0 = 0 by rw [← hSk]; rfl)
    simp only [hSk] at HS HMF
    have HRG := Lib.hid (fun k => vecB_rng hb k)
    generalize modF (atL xs) = b at *
    rw [hb] at HV
    clear hx hb hS hSk
    have N0 := Lib.hid (heap_alloc_new w (.cells (VL z4L) 52))
    have B0 := Lib.hid (bel_row (T := VL z4L) ((Below.refl w.heap.size w).alloc (Nat.le_refl _) (.cells (VL z4L) 52)) (Nat.le_refl _))
    have N1 := Lib.hid (setRow_heap _ _ _ (VL z4L) _ _ N0.out)
    go_enter Tryd.func12, Tryd.ntmps12
    go_wp2_with fail
    refine HV.out.mono ?_
    rintro e w' ⟨rfl, rfl⟩
    go_wp2_with (refine wpList_store_row rfl 52 _ _ rfl w.heap.size (VL z4L) rfl rfl 52 (VL z4L) N0.out ar4Info rfl (VL_all _) ?_)
    go_loopw [3, 5] (fun s i wr => ∃ k : Nat, k ≤ 24 ∧ i = .int .i64 k ∧ s = .int .i64 (S k) ∧ Hid (wr.heap[w.heap.size]? = some (.cells (VL (w4 (atL xs) k)) 52 (0, 0))) ∧ Hid (Below w.heap.size w wr)) (fun _ i _ => 24 - (intOf i).toNat)
    case atStart => exact ⟨0, by omega, rfl, by rw [HS0.out], Lib.hid (by rw [HW0.out]; exact N1.out), B0⟩
    case round =>
      obtain ⟨k, hk, rfl, rfl, h1, hbl⟩ := hrel
      clear N0 N1 B0 HV
      by_cases hlt : k < 24
      · obtain ⟨B1, o1, rfl, hB1, c1⟩ := (ha.below hbl.out).at_ (j := k) (by have := HL.out; omega)
        replace c1 := atL_get c1
        have k1 : (k : Int) < xs.length := by have := HL.out; omega
        have hk0 : (0 : Int) ≤ (k : Int) := by omega
        have hk2 : (k : Int) < 24 := by omega
        have hk3 : (k : Int) < 64 := by omega
        obtain ⟨r, hr, er, eg, es, _⟩ := HW4.out k
        have hr1 : (0 : Int) ≤ (r : Int) := by omega
        have hr2 : (r : Int) < 4 := by omega
        have hcx := VL_at (j := r) _ (show r < (w4 (atL xs) k).length from hr) h1.out
        rw [eg] at hcx
        have hfx : wr.frozen? ⟨w.heap.size, r, none⟩ = false := Lib.frozen_of_heap h1.out _
        have hrn := HRN.out r k hk
        obtain ⟨hsh1, hsh2, hsh3, hsh4⟩ := shl_wrap k (restN (atL xs) r k) hlt hrn
        rw [show (2 : Int) ^ k = ((2 ^ k : Nat) : Int) by push_cast; rfl] at es
        have HF := Lib.hid (fun X => row_set (X := X) h1.out (Nat.le_refl _) hbl.out es)
        have HRS := Lib.hid (fun W => l9Rest_calls (atL xs k) 4 W (.inr (.inl rfl)))
        rw [er] at HRS
        have h2 := HS.out k
        have h3 := HS.out (k + 1)
        have HST := Lib.hid (HSS.out k)
        obtain ⟨T, hT⟩ : ∃ T, S (k + 1) = T := ⟨_, rfl⟩
        rw [hT] at HST h3
        have HT := Lib.hid hT
        have hrg := HRG.out k
        clear hT er eg es
        generalize restN (atL xs) (r : Int) k = R at *
        generalize atL xs k = x at *
        generalize S k = s at *
        have hwn : wrap64 (s + x) = s + x := wrap64_of _ (by omega) (by omega)
        generalize (2 : Nat) ^ k = pw at *
        go_wp2_with (go_at_call 38; refine (HRS.out _).mono ?_; rintro e w' ⟨rfl, rfl⟩)
        go_region
        all_goals
          go_wp2_with fail
          go_roundw
          case rel =>
            refine ⟨k + 1, by omega, by go_num, by rw [HT.out, ← HST.out], Lib.hid ?_, Lib.hid ?_⟩
            · exact (HF.out _ rfl ⟨rfl, rfl, rfl⟩).1
            · exact (HF.out _ rfl ⟨rfl, rfl, rfl⟩).2.2.drew
          case measure => simp [intOf]; omega
      · obtain rfl : k = 24 := by omega
        obtain ⟨B1, o1, rfl, hB1, c1⟩ := (ha.below hbl.out).at_ (j := 0) (by have := HL.out; omega)
        replace c1 : wr.cell? ⟨B1, o1, none⟩ = some (.int .i64 (atL xs 0)) := c1
        have k1 : (0 : Int) < xs.length := by have := HL.out; omega
        have w0 := VL_at (j := 0) _ (show 0 < (w4 (atL xs) 24).length from (by decide : 0 < 4)) h1.out
        have w1 := VL_at (j := 1) _ (show 1 < (w4 (atL xs) 24).length from (by decide : 1 < 4)) h1.out
        have w2 := VL_at (j := 2) _ (show 2 < (w4 (atL xs) 24).length from (by decide : 2 < 4)) h1.out
        have w3 := VL_at (j := 3) _ (show 3 < (w4 (atL xs) 24).length from (by decide : 3 < 4)) h1.out
        replace w0 : wr.cell? ⟨w.heap.size, 0, none⟩ = some (.int .i64 ((restN (atL xs) 0 24 : Nat) : Int)) := w0
        replace w1 : wr.cell? ⟨w.heap.size, 1, none⟩ = some (.int .i64 ((restN (atL xs) 1 24 : Nat) : Int)) := w1
        replace w2 : wr.cell? ⟨w.heap.size, 2, none⟩ = some (.int .i64 ((restN (atL xs) 2 24 : Nat) : Int)) := w2
        replace w3 : wr.cell? ⟨w.heap.size, 3, none⟩ = some (.int .i64 ((restN (atL xs) 3 24 : Nat) : Int)) := w3
        have q0 := HRN.out 0 24 (by omega)
        have q1 := HRN.out 1 24 (by omega)
        have q2 := HRN.out 2 24 (by omega)
        have q3 := HRN.out 3 24 (by omega)
        have HRS := Lib.hid (fun W => l9Rest_calls (atL xs 0) 2 W (.inl rfl))
        have hsr := HS.out 24
        have hlw : w.heap.size < wr.heap.size := (Array.getElem?_eq_some_iff.1 h1.out).1
        have hl0 : (restN (atL xs) 0 24 : Int) = ((restN (atL xs) 0 24 : Nat) : Int) := rfl
        clear HS HL HW4 HRN HW0 HSS HS0 HRG h1
        generalize restN (atL xs) 0 24 = R0 at *
        generalize restN (atL xs) 1 24 = R1 at *
        generalize restN (atL xs) 2 24 = R2 at *
        generalize restN (atL xs) 3 24 = R3 at *
        generalize S 24 = s at *
        have hpar : atL xs 0 % 2 = 0 ∨ atL xs 0 % 2 = 1 := by omega
        rcases hpar with ho | ho
        · rw [ho] at HRS HMF
          by_cases e1 : R1 = 0
          · by_cases e3 : R3 = 0
            · subst e1 e3
              have HQ := Lib.hid (show b = (codeInB (R0 : Int) && codeInB (R2 : Int) && decide (s % 8 = 0)) by rw [HMF.out]; simp)
              have HI0 := Lib.hid (fun W => l3In_calls (R0 : Int) W (by omega) (by omega))
              have HI2 := Lib.hid (fun W => l3In_calls (R2 : Int) W (by omega) (by omega))
              cases z0 : codeInB (R0 : Int)
              · have HQ2 := Lib.hid (show b = false by rw [HQ.out, z0]; rfl)
                rw [z0] at HI0
                clear z0 HMF HQ ho
                generalize atL xs 0 = x at *
                go_wp2_with (go_at_call 38; refine (HRS.out _).mono ?_; rintro e w' ⟨rfl, rfl⟩)
                refine (HI0.out _).mono ?_
                rintro e w5 ⟨rfl, b5⟩
                go_wp2_with fail
                go_ret
                exact ⟨by rw [HQ2.out]; rfl, hbl.out.trans (b5.mono hbl.out.size)⟩
              · rw [z0] at HI0
                cases z2 : codeInB (R2 : Int)
                · have HQ2 := Lib.hid (show b = false by rw [HQ.out, z2]; simp)
                  rw [z2] at HI2
                  clear z0 z2 HMF HQ ho
                  generalize atL xs 0 = x at *
                  go_wp2_with (go_at_call 38; refine (HRS.out _).mono ?_; rintro e w' ⟨rfl, rfl⟩)
                  refine (HI0.out _).mono ?_
                  rintro e w5 ⟨rfl, b5⟩
                  have w2' := (b5.cell (p := ⟨w.heap.size, 2, none⟩) hlw).trans w2
                  go_wp2_with fail
                  refine (HI2.out _).mono ?_
                  rintro e w6 ⟨rfl, b6⟩
                  go_wp2_with fail
                  go_ret
                  exact ⟨by rw [HQ2.out]; rfl, (hbl.out.trans (b5.mono hbl.out.size)).trans (b6.mono (Nat.le_trans hbl.out.size b5.size))⟩
                · have HQ2 := Lib.hid (show b = decide (s % 8 = 0) by rw [HQ.out, z0, z2]; rfl)
                  rw [z2] at HI2
                  clear z0 z2 HMF HQ ho
                  generalize atL xs 0 = x at *
                  go_wp2_with (go_at_call 38; refine (HRS.out _).mono ?_; rintro e w' ⟨rfl, rfl⟩)
                  refine (HI0.out _).mono ?_
                  rintro e w5 ⟨rfl, b5⟩
                  have w2' := (b5.cell (p := ⟨w.heap.size, 2, none⟩) hlw).trans w2
                  go_wp2_with fail
                  refine (HI2.out _).mono ?_
                  rintro e w6 ⟨rfl, b6⟩
                  go_wp2_with (go_at_call 38; refine (l9Rest_calls s 8 _ (.inr (.inr rfl))).mono ?_; rintro e w' ⟨rfl, rfl⟩)
                  go_ret
                  exact ⟨by rw [HQ2.out]; rfl, (hbl.out.trans (b5.mono hbl.out.size)).trans (b6.mono (Nat.le_trans hbl.out.size b5.size))⟩
            · have HQ2 := Lib.hid (show b = false by rw [HMF.out]; simp [e3])
              have hz : ((R3 : Int) != 0) = true := by simp; exact e3
              subst e1
              clear HMF ho e3
              generalize atL xs 0 = x at *
              go_wp2_with (go_at_call 38; refine (HRS.out _).mono ?_; rintro e w' ⟨rfl, rfl⟩)
              go_ret
              exact ⟨by rw [HQ2.out]; rfl, hbl.out⟩
          · have HQ2 := Lib.hid (show b = false by rw [HMF.out]; simp [e1])
            have hz : ((R1 : Int) != 0) = true := by simp; exact e1
            clear HMF ho e1
            generalize atL xs 0 = x at *
            go_wp2_with (go_at_call 38; refine (HRS.out _).mono ?_; rintro e w' ⟨rfl, rfl⟩)
            go_ret
            exact ⟨by rw [HQ2.out]; rfl, hbl.out⟩
        · have hne : ¬ (1 : Int) = 0 := by omega
          rw [ho, if_neg hne] at HMF
          rw [ho] at HRS
          by_cases e1 : R0 = 0
          · by_cases e3 : R2 = 0
            · subst e1 e3
              have HQ := Lib.hid (show b = (codeInB (R1 : Int) && codeInB (R3 : Int) && decide (s % 8 = 4)) by rw [HMF.out]; simp)
              have HI0 := Lib.hid (fun W => l3In_calls (R1 : Int) W (by omega) (by omega))
              have HI2 := Lib.hid (fun W => l3In_calls (R3 : Int) W (by omega) (by omega))
              cases z0 : codeInB (R1 : Int)
              · have HQ2 := Lib.hid (show b = false by rw [HQ.out, z0]; rfl)
                rw [z0] at HI0
                clear z0 HMF HQ ho
                generalize atL xs 0 = x at *
                go_wp2_with (go_at_call 38; refine (HRS.out _).mono ?_; rintro e w' ⟨rfl, rfl⟩)
                refine (HI0.out _).mono ?_
                rintro e w5 ⟨rfl, b5⟩
                go_wp2_with fail
                go_ret
                exact ⟨by rw [HQ2.out]; rfl, hbl.out.trans (b5.mono hbl.out.size)⟩
              · rw [z0] at HI0
                cases z2 : codeInB (R3 : Int)
                · have HQ2 := Lib.hid (show b = false by rw [HQ.out, z2]; simp)
                  rw [z2] at HI2
                  clear z0 z2 HMF HQ ho
                  generalize atL xs 0 = x at *
                  go_wp2_with (go_at_call 38; refine (HRS.out _).mono ?_; rintro e w' ⟨rfl, rfl⟩)
                  refine (HI0.out _).mono ?_
                  rintro e w5 ⟨rfl, b5⟩
                  have w2' := (b5.cell (p := ⟨w.heap.size, 3, none⟩) hlw).trans w3
                  go_wp2_with fail
                  refine (HI2.out _).mono ?_
                  rintro e w6 ⟨rfl, b6⟩
                  go_wp2_with fail
                  go_ret
                  exact ⟨by rw [HQ2.out]; rfl, (hbl.out.trans (b5.mono hbl.out.size)).trans (b6.mono (Nat.le_trans hbl.out.size b5.size))⟩
                · have HQ2 := Lib.hid (show b = decide (s % 8 = 4) by rw [HQ.out, z0, z2]; rfl)
                  rw [z2] at HI2
                  clear z0 z2 HMF HQ ho
                  generalize atL xs 0 = x at *
                  go_wp2_with (go_at_call 38; refine (HRS.out _).mono ?_; rintro e w' ⟨rfl, rfl⟩)
                  refine (HI0.out _).mono ?_
                  rintro e w5 ⟨rfl, b5⟩
                  have w2' := (b5.cell (p := ⟨w.heap.size, 3, none⟩) hlw).trans w3
                  go_wp2_with fail
                  refine (HI2.out _).mono ?_
                  rintro e w6 ⟨rfl, b6⟩
                  go_wp2_with (go_at_call 38; refine (l9Rest_calls s 8 _ (.inr (.inr rfl))).mono ?_; rintro e w' ⟨rfl, rfl⟩)
                  go_ret
                  exact ⟨by rw [HQ2.out]; rfl, (hbl.out.trans (b5.mono hbl.out.size)).trans (b6.mono (Nat.le_trans hbl.out.size b5.size))⟩
            · have HQ2 := Lib.hid (show b = false by rw [HMF.out]; simp [e3])
              have hz : ((R2 : Int) != 0) = true := by simp; exact e3
              subst e1
              clear HMF ho e3
              generalize atL xs 0 = x at *
              go_wp2_with (go_at_call 38; refine (HRS.out _).mono ?_; rintro e w' ⟨rfl, rfl⟩)
              go_ret
              exact ⟨by rw [HQ2.out]; rfl, hbl.out⟩
          · have HQ2 := Lib.hid (show b = false by rw [HMF.out]; simp [e1])
            have hz : ((R0 : Int) != 0) = true := by simp; exact e1
            clear HMF ho e1
            generalize atL xs 0 = x at *
            go_wp2_with (go_at_call 38; refine (HRS.out _).mono ?_; rintro e w' ⟨rfl, rfl⟩)
            go_ret
            exact ⟨by rw [HQ2.out]; rfl, hbl.out⟩
set_option maxHeartbeats 2000000 in
theorem sLatticeAdd_calls (A A2 : Option Addr) (c c2 : Nat) (xs ys : List Int) (w : World) (ha : Rds w w.heap.size .i64 A xs) (hx : xs.length ≤ maxLen) (ha2 : Rds w w.heap.size .i64 A2 ys) (hy : ys.length ≤ maxLen) :
    Calls Tryd.prog 17 #[.slice A xs.length c, .slice A2 ys.length c2] w (GotL w (lvAdd xs ys).1 (lvAdd xs ys).2) := by
  have bA : Below w.heap.size w (w.alloc (.cells #[] 3)) := (Below.refl _ _).alloc (Nat.le_refl _) _
  have HE := Lib.hid (own_empty2 w w.heap.size (Nat.le_refl _))
  have HA := Lib.hid bA
  have HI := Lib.hid (fun (W : World) (h : Below w.heap.size w W) => sLatticeIn_calls A c xs W ((ha.below h).more h.size) hx)
  have HI2 := Lib.hid (fun (W : World) (h : Below w.heap.size w W) => sLatticeIn_calls A2 c2 ys W ((ha2.below h).more h.size) hy)
  rcases hb : latB xs with _ | _
  · rw [show lvAdd xs ys = ([], false) by simp [lvAdd, hb]]
    simp only [hb] at HI
    clear ha hx ha2 hy hb bA
    generalize xs.length = n at *
    generalize ys.length = n2 at *
    go_enter Tryd.func17, Tryd.ntmps17
    go_wp2_with fail
    refine (HI.out _ HA.out).mono ?_
    rintro e w1 ⟨rfl, b1⟩
    go_wp2_with fail
    go_ret2
    exact ⟨_, rfl, HE.out.below b1, HA.out.trans (b1.mono HA.out.size)⟩
  rcases hc : latB ys with _ | _
  · rw [show lvAdd xs ys = ([], false) by simp [lvAdd, hc]]
    simp only [hb] at HI
    simp only [hc] at HI2
    clear ha hx ha2 hy hb hc bA
    generalize xs.length = n at *
    generalize ys.length = n2 at *
    go_enter Tryd.func17, Tryd.ntmps17
    go_wp2_with fail
    refine (HI.out _ HA.out).mono ?_
    rintro e w1 ⟨rfl, b1⟩
    have B1 := Lib.hid (HA.out.trans (b1.mono HA.out.size))
    have E1 := Lib.hid (HE.out.below b1)
    clear b1
    go_wp2_with fail
    refine (HI2.out _ B1.out).mono ?_
    rintro e w2 ⟨rfl, b2⟩
    go_wp2_with fail
    go_ret2
    exact ⟨_, rfl, E1.out.below b2, B1.out.trans (b2.mono B1.out.size)⟩
  · obtain ⟨R, hR⟩ : ∃ R, lvAdd xs ys = R := ⟨_, rfl⟩
    have hlv : R = if vecB (addL xs ys) then (addL xs ys, true) else ([], false) := by rw [← hR]; simp [lvAdd, hb, hc]
    rw [hR]
    have HR := Lib.hid hlv
    have HRX := Lib.hid (fun k => vecB_rng (latB_vec hb) k)
    have HRY := Lib.hid (fun k => vecB_rng (latB_vec hc) k)
    have HL := Lib.hid (vecB_len (latB_vec hb))
    have HL2 := Lib.hid (vecB_len (latB_vec hc))
    have HST := Lib.hid (fun k hk => vL_take (fun p => atL xs p + atL ys p) k hk)
    have HZL := Lib.hid (show (addL xs ys).length = 24 from vL_len _)
    rw [show vL (fun p => atL xs p + atL ys p) = addL xs ys from rfl] at HST
    generalize addL xs ys = zs at *
    simp only [hb] at HI
    simp only [hc] at HI2
    clear hx hy hb hc bA hR hlv
    go_enter Tryd.func17, Tryd.ntmps17
    go_wp2_with fail
    refine (HI.out _ HA.out).mono ?_
    rintro e w1 ⟨rfl, b1⟩
    have B1 := Lib.hid (HA.out.trans (b1.mono HA.out.size))
    have E1 := Lib.hid (HE.out.below b1)
    clear b1
    go_wp2_with fail
    refine (HI2.out _ B1.out).mono ?_
    rintro e w2 ⟨rfl, b2⟩
    have B2 := Lib.hid (B1.out.trans (b2.mono B1.out.size))
    have E2 := Lib.hid (E1.out.below b2)
    clear b2 E1 B1 HE HA
    go_wp2_with fail
    go_loopw [6, 7] (fun v i wr => ∃ k : Nat, k ≤ 24 ∧ i = .int .i64 k ∧ Hid (Own wr w.heap.size v (zs.take k)) ∧ Hid (Below w.heap.size w wr)) (fun _ i _ => 24 - (intOf i).toNat)
    case atStart => exact ⟨0, by omega, rfl, E2, B2⟩
    case round =>
      obtain ⟨k, hk, rfl, ho, hbl⟩ := hrel
      clear E2 B2
      by_cases hlt : k < 24
      · obtain ⟨B1, o1, rfl, hB1, c1⟩ := (ha.below hbl.out).at_ (j := k) (by have := HL.out; omega)
        obtain ⟨B2, o2, rfl, hB2, c2'⟩ := (ha2.below hbl.out).at_ (j := k) (by have := HL2.out; omega)
        replace c1 := atL_get c1
        replace c2' := atL_get c2'
        have k1 : (k : Int) < xs.length := by have := HL.out; omega
        have k2 : (k : Int) < ys.length := by have := HL2.out; omega
        have HS := Lib.hid (HST.out k hlt)
        have hlen : (zs.take k).length ≤ 24 := by rw [List.length_take]; omega
        have r1 := HRX.out k
        have r2 := HRY.out k
        have hsz := hbl.out.size
        have l1 : B1 < wr.heap.size := by omega
        have l2 : B2 < wr.heap.size := by omega
        generalize atL xs k = x at *
        generalize atL ys k = y at *
        have hxy : IntKind.i64.wrap (x + y) = x + y := wrap_i64_of _ (by omega) (by omega)
        go_wp2_with fail
        go_region_held3 (fun w' => w'.cell? ⟨B1, o1 + k, none⟩ = some (.int .i64 x) ∧ w'.cell? ⟨B2, o2 + k, none⟩ = some (.int .i64 y))
          (first | go_keep | (go_split_ands; exact ⟨(hb2.cell (p := ⟨B1, o1 + k, none⟩) hB1).trans (by assumption), (hb2.cell (p := ⟨B2, o2 + k, none⟩) hB2).trans (by assumption)⟩))
          ((refine step_push rfl _ _ (by rfl) wr w.heap.size u6 (zs.take k) (x + y) 1 (by rfl) (by rfl) ho.out (by omega) hsz ?_; intro v2 w2 ho2 hb2 hg2))
        rw [HS.out] at ho2
        go_wp2
        go_roundw
        case rel => exact ⟨k + 1, by omega, by go_num, Lib.hid ho2, Lib.hid (hbl.out.trans hb2)⟩
        case measure => simp [intOf]; omega
      · obtain rfl : k = 24 := by omega
        have ho2 := ho.out
        rw [List.take_of_length_le (by rw [HZL.out]; omega)] at ho2
        obtain ⟨A5, c5, rfl⟩ := ho2.slice
        have HO := Lib.hid ho2
        have HVV := Lib.hid (sVectorValid_calls A5 c5 zs wr ho2.rds ho2.len_le)
        have HEE := Lib.hid (own_empty2 wr w.heap.size hbl.out.size)
        have HEB := Lib.hid (hbl.out.alloc hbl.out.size (.cells #[] 3))
        clear ho ho2
        cases hv : vecB zs
        · rw [hv] at HVV
          have hR2 : R = ([], false) := by rw [HR.out, hv]; rfl
          subst hR2
          clear hv
          generalize zs.length = m at *
          go_wp2_with fail
          refine HVV.out.mono ?_
          rintro e w' ⟨rfl, rfl⟩
          go_wp2_with fail
          go_ret2
          exact ⟨_, rfl, HEE.out, HEB.out⟩
        · rw [hv] at HVV
          have hR2 : R = (zs, true) := by rw [HR.out, hv]; rfl
          subst hR2
          clear hv
          generalize zs.length = m at *
          go_wp2_with fail
          refine HVV.out.mono ?_
          rintro e w' ⟨rfl, rfl⟩
          go_wp2_with fail
          go_ret2
          exact ⟨_, rfl, HO.out, hbl.out⟩
end Go.Proofs.YtmeejnkpaiinaabDoor
