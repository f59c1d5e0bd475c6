import Derived.Test.YtcfhfllcdliaoaaGreatDoorQ5
import Derived.Test.YtcfhfllcdliaoaaGreatDoorQ1
import Derived.Test.YtcfhfllcdliaoaaGreatDoorP2
import Derived.Test.YtcfhfllcdliaoaaGreatDoorQ2
/- Contracts of the program's messages: from a number, its parts, its word (out of the table of columns). -/
namespace Go.Proofs.YtcfhfllcdliaoaaGreatDoor
open Go.RowKit
set_option linter.unusedVariables false

def bareRows : List (List Int) := [[0, 12, 10, 6], [14, 2, 4, 8]]
def bareG : Nat := 0
/-- The table of columns in memory. -/
def TabC (w : World) : Prop := ∀ j, j < 8 → w.cell? ⟨0, j, none⟩ = some (.int .u32 (bareT.getD j 0))
theorem TabC.below {w w' : World} {B : Nat} (h : TabC w) (hb : Below B w w') (h0 : bareG < B) : TabC w' := fun j hj => (hb.cell (p := ⟨0, j, none⟩) h0).trans (h j hj)
theorem TabC.lt {w : World} (h : TabC w) : bareG < w.heap.size := World.block_lt_of_cell? w ⟨0, 0, none⟩ (h 0 (by decide))
theorem TabC.drewN {w : World} (h : TabC w) (k : Nat) : TabC (w.drewN k) := h
theorem TabC.alloc {w : World} (h : TabC w) (o : Obj) : TabC (w.alloc o) := h.below ((Below.refl _ _).alloc (Nat.le_refl _) o) h.lt
/-- Both tables of messages. -/
def Tab2 (w : World) : Prop := TabP w ∧ TabC w
def tab2G : Nat := max prodG bareG
theorem Tab2.below {w w' : World} {B : Nat} (h : Tab2 w) (hb : Below B w w') (h0 : tab2G < B) : Tab2 w' := ⟨h.1.below hb (by unfold tab2G at h0; omega), h.2.below hb (by unfold tab2G at h0; omega)⟩
theorem Tab2.lt {w : World} (h : Tab2 w) : tab2G < w.heap.size := by have := h.1.lt; have := h.2.lt; unfold tab2G; omega
theorem Tab2.drewN {w : World} (h : Tab2 w) (k : Nat) : Tab2 (w.drewN k) := h
theorem Tab2.alloc {w : World} (h : Tab2 w) (o : Obj) : Tab2 (w.alloc o) := ⟨h.1.alloc o, h.2.alloc o⟩
def IsM (m : Int) : Prop := 0 ≤ m ∧ m ≤ 4095
theorem messageFrom_ok (n : Int) (w : World) (h : IsM n) :
    Calls Tryz.prog 47 #[.int .i64 n] w fun e w' => e = .returned (.tuple #[.int .u16 n, .bool true]) ∧ w = w' := by
  obtain ⟨h0, h1⟩ := h
  have hw : IntKind.u16.wrap n = n := by rw [IntKind.wrap_u16]; omega
  go_enter Tryz.func47, Tryz.ntmps47
  go_wp2
  go_ret2
  exact ⟨rfl, rfl⟩
theorem messageFrom_no (n : Int) (w : World) (h : n < 0 ∨ 4095 < n) :
    Calls Tryz.prog 47 #[.int .i64 n] w fun e w' => e = .returned (.tuple #[.int .u16 0, .bool false]) ∧ w = w' := by
  rcases h with h | h
  · go_enter Tryz.func47, Tryz.ntmps47
    go_wp2
    go_ret2
    exact ⟨rfl, rfl⟩
  · have h' : ¬ n < 0 := by omega
    go_enter Tryz.func47, Tryz.ntmps47
    go_wp2
    go_ret2
    exact ⟨rfl, rfl⟩
theorem message_parity (m : Int) (w : World) (h : IsM m) :
    Calls Tryz.prog 73 #[.int .u16 m] w fun e w' => e = .returned (.int .i64 (m / 64 % 2)) ∧ w = w' := by
  obtain ⟨h0, h1⟩ := h
  go_enter Tryz.func73, Tryz.ntmps73
  go_wp2
  go_ret
  exact ⟨rfl, rfl⟩
theorem message_hasTop (m : Int) (c : Nat) (w : World) (h : IsM m) (hc : c < 6) :
    Calls Tryz.prog 74 #[.int .u16 m, .int .i64 c] w fun e w' => e = .returned (.bool (topB m c)) ∧ w = w' := by
  obtain ⟨h0, h1⟩ := h
  obtain rfl | rfl | rfl | rfl | rfl | rfl : c = 0 ∨ c = 1 ∨ c = 2 ∨ c = 3 ∨ c = 4 ∨ c = 5 := by omega
  all_goals
    go_enter Tryz.func74, Tryz.ntmps74
    go_wp2
    go_ret
    exact ⟨ret_b (by unfold topB; simp; try rfl), rfl⟩
set_option maxHeartbeats 2000000 in
theorem message_scores (m : Int) (w : World) (h : IsM m) (hT : TabP w) :
    Calls Tryz.prog 72 #[.int .u16 m] w fun r w' => r = .returned (.agg (vals .u8 (rowM m)).toArray) ∧ Below w.heap.size w w' := by
  show Calls _ _ _ _ fun r w' => r = .returned (.agg #[.int .u8 (m % 4), .int .u8 (m / 4 % 4), .int .u8 (m / 16 % 4), .int .u8 (hexF (m % 4) (m / 4 % 4) (m / 16 % 4) 1), .int .u8 (hexF (m % 4) (m / 4 % 4) (m / 16 % 4) 2), .int .u8 (hexF (m % 4) (m / 4 % 4) (m / 16 % 4) 3)]) ∧ Below w.heap.size w w'
  obtain ⟨h0, h1⟩ := h
  have D1 : IsD (m % 4) := ⟨by omega, by omega⟩
  have D2 : IsD (m / 4 % 4) := ⟨by omega, by omega⟩
  have D3 : IsD (m / 16 % 4) := ⟨by omega, by omega⟩
  go_enter Tryz.func72, Tryz.ntmps72
  go_wp2
  refine wp_loop_rounds 4 ?_
  iterate 4 (rw [rounds_succ]; go_wp2_with fail)
  refine (hexRowOf_calls _ _ _ _ D1 D2 D3 (by repeat (first | assumption | apply TabP.alloc))).mono ?_
  rintro e w1 ⟨rfl, b1⟩
  generalize hy1 : hexF (m % 4) (m / 4 % 4) (m / 16 % 4) 1 = y1
  have HY1 := Lib.hid hy1
  clear hy1
  generalize hy2 : hexF (m % 4) (m / 4 % 4) (m / 16 % 4) 2 = y2
  have HY2 := Lib.hid hy2
  clear hy2
  generalize hy3 : hexF (m % 4) (m / 4 % 4) (m / 16 % 4) 3 = y3
  have HY3 := Lib.hid hy3
  clear hy3
  have Q := ((Blk.new w 101 #[.int .u8 0, .int .u8 0, .int .u8 0, .int .u8 0, .int .u8 0, .int .u8 0]).alloc (.cells #[.int .u8 (m % 4), .int .u8 (m / 4 % 4), .int .u8 (m / 16 % 4)] 131)).below b1 (by simp only [alloc_sz]; omega)
  obtain ⟨q0, q1, q2, q3, q4, q5, qf⟩ := Q.six
  have HQ := Lib.hid Q
  have HB := Lib.hid ((((Below.refl w.heap.size w).alloc (Nat.le_refl _) (.cells #[.int .u8 0, .int .u8 0, .int .u8 0, .int .u8 0, .int .u8 0, .int .u8 0] 101)).alloc (by simp) (.cells #[.int .u8 (m % 4), .int .u8 (m / 4 % 4), .int .u8 (m / 16 % 4)] 131)).trans (b1.mono (by simp only [alloc_sz]; omega)))
  clear Q b1 hT D1 D2 D3
  simp only []
  repeat (first | go_step | go_guarded | go_skip)
  exact bodyPost_ret (results_c rfl rfl HQ.out.set6 Tryz.underlying101 rfl rowInfo) rfl ⟨by rw [HY1.out, HY2.out, HY3.out], below_set6 HB.out (Nat.le_refl _)⟩
theorem idxR (r0 r1 r2 r3 r4 r5 : Int) (c : Nat) (hc : c < 6) (W : World) : (Instr.index 101 (.agg #[.int .u8 r0, .int .u8 r1, .int .u8 r2, .int .u8 r3, .int .u8 r4, .int .u8 r5]) (.int .i64 c)).run Tryz.prog W = .ok (.int .u8 ([r0, r1, r2, r3, r4, r5].getD c 0)) W := by
  obtain rfl | rfl | rfl | rfl | rfl | rfl : c = 0 ∨ c = 1 ∨ c = 2 ∨ c = 3 ∨ c = 4 ∨ c = 5 := by omega
  · exact idx0 _ _ _ _ _ _ W
  · exact idx1 _ _ _ _ _ _ W
  · exact idx2 _ _ _ _ _ _ W
  · exact idx3 _ _ _ _ _ _ W
  · exact idx4 _ _ _ _ _ _ W
  · exact idx5 _ _ _ _ _ _ W
set_option maxHeartbeats 2000000 in
theorem message_word (m : Int) (w : World) (h : IsM m) (hT : Tab2 w) :
    Calls Tryz.prog 48 #[.int .u16 m] w fun r w' => r = .returned (.int .u32 (codeOf m)) ∧ Below w.heap.size w w' := by
  rw [← wordM_code m h.1 h.2]
  have hw6 := wordTo_rng m 6 (by omega)
  have HM := Lib.hid (show wordM m = if wt (andI (wordTo m 6) 1118481) % 2 = m / 64 % 2 then wordTo m 6 else xorI (wordTo m 6) 15 from rfl)
  obtain ⟨p, hp⟩ := fin2 (n := m / 64 % 2) (by omega)
  have hrow : ∃ r0 r1 r2 r3 r4 r5 : Int, rowM m = [r0, r1, r2, r3, r4, r5] := ⟨_, _, _, _, _, _, rfl⟩
  obtain ⟨r0, r1, r2, r3, r4, r5, hr⟩ := hrow
  have HR := Lib.hid hr
  have hC := hT.2
  have HP := Lib.hid hp
  go_enter Tryz.func48, Tryz.ntmps48
  go_wp2_with fail
  refine (message_scores m _ h hT.1).mono ?_
  rintro e w1 ⟨rfl, b1⟩
  rw [HR.out]
  have hC1 := Lib.hid (hC.below b1 hC.lt)
  have HB := Lib.hid b1
  have HH := Lib.hid h
  have HHP := Lib.hid (show m / 64 % 2 = ((p.val : Nat) : Int) from hp)
  have hp2 := p.isLt
  clear hr hp hC b1 h hT
  generalize p.val = P at *
  have HX := Lib.hid (idxR r0 r1 r2 r3 r4 r5)
  show (_ : Prop)
  simp only [vals, List.map_cons, List.map_nil]
  go_wp2_with fail
  go_loop [3, 4, 5, 6, 9] (fun v _ _ _ i => ∃ c : Nat, c ≤ 6 ∧ i = .int .i64 c ∧ v = .int .u32 (wordTo m c)) (fun _ _ _ _ i => 6 - (intOf i).toNat)
  case atStart => exact ⟨0, by omega, rfl, rfl⟩
  case round =>
    obtain ⟨c, hc, rfl, rfl⟩ := hrel
    by_cases hlt : c < 6
    · have hx := HX.out c hlt
      have hq := wordTo_rng m c hc
      have hpr := partM_rng m c
      have hbr := bareM_rng m c
      have hsr := shift_rng (partM m c) c hlt hpr.1 hpr.2
      have HS := Lib.hid (show wordTo m (c + 1) = xorI (wordTo m c) (partM m c * 2 ^ (4 * c)) from rfl)
      obtain ⟨s, hs⟩ := (rowM_d m c).fin
      have hs4 := s.isLt
      have hb : bareT.getD (P * 4 + s.val) 0 = bareM m c := by
        unfold bareM; rw [HHP.out, hs]; rfl
      rw [← HR.out, hs] at hx
      have hcell := hC1.out (P * 4 + s.val) (by omega)
      rw [hb] at hcell
      generalize s.val = Z at *
      clear hb hs
      have hsh : partM m c * 2 ^ (c * 4) % 4294967296 = partM m c * 2 ^ (4 * c) := by rw [Nat.mul_comm c 4]; omega
      have HSH := Lib.hid hsh
      clear hsh
      rcases ht : topB m c with _ | _
      · have hpm : partM m c = bareM m c := by unfold partM; rw [ht]; rfl
        rw [← hpm] at hcell hbr
        generalize wordTo m c = V at *
        generalize partM m c = X at *
        have HT := Lib.hid ht
        clear ht hpm
        go_wp2_with (first
          | (go_at_call 73; refine (message_parity _ _ HH.out).mono ?_; rintro e w' ⟨rfl, rfl⟩; rw [HHP.out])
          | (go_at_call 74; refine (message_hasTop _ _ _ HH.out hlt).mono ?_; rintro e w' ⟨rfl, rfl⟩; rw [HT.out])
          | (go_at_call 65; refine (placeAt_calls _ _ _ (by omega) (by omega) (by omega) (by omega)).mono ?_; rintro e w' ⟨rfl, rfl⟩)
          | (go_at_call 69; rw [HSH.out]; refine (word_add _ _ _ (by omega) (by omega) (by omega) (by omega)).mono ?_; rintro e w' ⟨rfl, rfl⟩)
          | (go_at_call 69; refine (word_add _ _ _ (by omega) (by omega) (by omega) (by omega)).mono ?_; rintro e w' ⟨rfl, rfl⟩))
        go_round
        case rel => exact ⟨c + 1, by omega, by go_num, by rw [HS.out]⟩
        case measure => simp [intOf]; omega
      · have hpm : xorI (bareM m c) 15 = partM m c := by unfold partM; rw [ht]; rfl
        generalize wordTo m c = V at *
        generalize partM m c = X at *
        generalize bareM m c = Y at *
        have HT := Lib.hid ht
        have HPM := Lib.hid hpm
        clear ht hpm
        go_wp2_with (first
          | (go_at_call 73; refine (message_parity _ _ HH.out).mono ?_; rintro e w' ⟨rfl, rfl⟩; rw [HHP.out])
          | (go_at_call 74; refine (message_hasTop _ _ _ HH.out hlt).mono ?_; rintro e w' ⟨rfl, rfl⟩; rw [HT.out])
          | (go_at_call 65; refine (placeAt_calls _ _ _ (by omega) (by omega) (by omega) (by omega)).mono ?_; rintro e w' ⟨rfl, rfl⟩)
          | (go_at_call 69; rw [HSH.out]; refine (word_add _ _ _ (by omega) (by omega) (by omega) (by omega)).mono ?_; rintro e w' ⟨rfl, rfl⟩)
          | (go_at_call 69; refine (word_add _ _ _ (by omega) (by omega) (by omega) (by omega)).mono ?_; rintro e w' ⟨rfl, rfl⟩; rw [HPM.out]))
        go_round
        case rel => exact ⟨c + 1, by omega, by go_num, by rw [HS.out]⟩
        case measure => simp [intOf]; omega
    · obtain rfl : c = 6 := by omega
      have hm6 := andI_nonneg (wordTo m 6) 1118481
      have hm7 := andI_le (wordTo m 6) 1118481 (by omega)
      have hwr := wt_range (andI (wordTo m 6) 1118481)
      have hz : (wt (andI (wordTo m 6) 1118481)) % 2 = 0 ∨ (wt (andI (wordTo m 6) 1118481)) % 2 = 1 := by omega
      obtain ⟨z, hz⟩ := fin2 hz
      have hz2 := z.isLt
      have HMM := HM
      rw [HHP.out, hz] at HMM
      have HZ := Lib.hid hz
      generalize wordTo m 6 = V at *
      generalize z.val = Z at *
      generalize hW : wt (andI V 1118481) = W at *
      have HW := Lib.hid hW
      clear HM hz hW
      have hpz : ((Z : Int) = (P : Int)) ↔ Z = P := by omega
      by_cases he : Z = P
      · subst he
        have HF := Lib.hid (HMM.out.trans (if_pos rfl))
        have hne : (W % 2 != (Z : Int)) = false := by rw [HZ.out]; simp
        clear HMM hpz
        go_wp2_with (first
          | (go_at_call 73; refine (message_parity _ _ HH.out).mono ?_; rintro e w' ⟨rfl, rfl⟩; rw [HHP.out])
          | (go_at_call 75; refine (word_meet _ _ _ (by omega) (by omega) (by omega) (by omega)).mono ?_; rintro e w' ⟨rfl, rfl⟩)
          | (go_at_call 44; refine (word_weight _ _ (by omega) (by omega)).mono ?_; rintro e w' ⟨he, k, rfl⟩; rw [HW.out] at he; subst he)
          | (go_at_call 69; refine (word_add _ _ _ (by omega) (by omega) (by omega) (by omega)).mono ?_; rintro e w' ⟨rfl, rfl⟩))
        go_ret
        exact ⟨ret_i HF.out.symm, below_drewN HB.out _⟩
      · have HF := Lib.hid (HMM.out.trans (if_neg (fun h => he (hpz.1 h))))
        have hne : (W % 2 != (P : Int)) = true := by rw [HZ.out]; exact bne_iff_ne.2 (fun h => he (hpz.1 h))
        clear HMM hpz he
        go_wp2_with (first
          | (go_at_call 73; refine (message_parity _ _ HH.out).mono ?_; rintro e w' ⟨rfl, rfl⟩; rw [HHP.out])
          | (go_at_call 75; refine (word_meet _ _ _ (by omega) (by omega) (by omega) (by omega)).mono ?_; rintro e w' ⟨rfl, rfl⟩)
          | (go_at_call 44; refine (word_weight _ _ (by omega) (by omega)).mono ?_; rintro e w' ⟨he, k, rfl⟩; rw [HW.out] at he; subst he)
          | (go_at_call 69; refine (word_add _ _ _ (by omega) (by omega) (by omega) (by omega)).mono ?_; rintro e w' ⟨rfl, rfl⟩))
        go_ret
        exact ⟨ret_i HF.out.symm, below_drewN HB.out _⟩
end Go.Proofs.YtcfhfllcdliaoaaGreatDoor
/- Contracts of CodeOf, of the program and of the model. -/
namespace Go.Proofs.YtcfhfllcdliaoaaGreatDoor
open Go.RowKit
set_option linter.unusedVariables false

theorem iCodeOf_calls (m : Int) (w : World) (hT : Tab2 w) :
    Calls Tryz.prog 25 #[.int .i64 m] w fun e w' => e = .returned (.tuple #[.int .i64 (cOf m).1, .bool (cOf m).2]) ∧ Below w.heap.size w w' := by
  rcases hb : msgB m with _ | _
  · have hn := (msgB_no m).1 hb
    rw [show cOf m = (0, false) by simp [cOf, hb]]
    clear hb
    go_enter Tryz.func25, Tryz.ntmps25
    go_wp2_with (go_at_call 47; refine (messageFrom_no _ _ hn).mono ?_; rintro e w' ⟨rfl, rfl⟩)
    go_ret2
    exact ⟨rfl, Below.refl _ _⟩
  · have hn : IsM m := (msgB_iff m).1 hb
    have hr := codeOf_range m
    rw [show cOf m = (codeOf m, true) by simp [cOf, hb]]
    clear hb
    go_enter Tryz.func25, Tryz.ntmps25
    go_wp2_with (first
      | (go_at_call 47; refine (messageFrom_ok _ _ hn).mono ?_; rintro e w' ⟨rfl, rfl⟩)
      | (go_at_call 48; refine (message_word _ _ hn hT).mono ?_; rintro e w1 ⟨rfl, b1⟩))
    go_ret2
    exact ⟨rfl, b1⟩
theorem sCodeOf_calls (m : Int) (w : World) :
    Calls Tryz.prog 26 #[.int .i64 m] w fun e w' => e = .returned (.tuple #[.int .i64 (cOf m).1, .bool (cOf m).2]) ∧ Below w.heap.size w w' := by
  rcases hb : msgB m with _ | _
  · have hn := (msgB_no m).1 hb
    rw [show cOf m = (0, false) by simp [cOf, hb]]
    clear hb
    go_enter Tryz.func26, Tryz.ntmps26
    go_wp2_with (go_at_call 49; refine (l6In_no _ _ _ _ (by omega)).mono ?_; rintro e w' ⟨rfl, rfl⟩)
    go_ret2
    exact ⟨rfl, Below.refl _ _⟩
  · have hn := (msgB_iff m).1 hb
    rw [show cOf m = (codeOf m, true) by simp [cOf, hb]]
    clear hb
    go_enter Tryz.func26, Tryz.ntmps26
    go_wp2_with (first
      | (go_at_call 49; refine (l6In_ok _ _ _ _ hn.1 hn.2).mono ?_; rintro e w' ⟨rfl, rfl⟩)
      | (go_at_call 50; refine (l3Of_calls _ _ hn.1 hn.2).mono ?_; rintro e w1 ⟨rfl, b1⟩))
    go_ret2
    exact ⟨rfl, b1⟩
end Go.Proofs.YtcfhfllcdliaoaaGreatDoor