/- Joined texts: Q6 C10. -/
import Derived.Test.YtiodikflmijhkaaGreatDoorJ08
import Derived.Test.YtiodikflmijhkaaGreatDoorJ07
import Derived.Test.YtiodikflmijhkaaGreatDoorJ04
import Derived.RangeFuncBox
import Derived.RangeFuncNested
import Derived.RangeFuncBound
import Derived.RangeFuncCalls
import Derived.RangeFuncLeaves
import Derived.Shelf.Abstract
import Derived.Shelf.Spec.TrailingZeros
import Derived.OwnWalkIn
import Derived.TacticsInMore
import Derived.LoopNIn
import Derived.LoopIn
import Derived.Maps.AppendAt
import Derived.Test.YtiodikflmijhkaaGreatDoorJ00
import Derived.Test.YtiodikflmijhkaaGreatDoorJ01
section
namespace Go.Proofs.YtiodikflmijhkaaGreatDoor
open Go.RowKit
set_option linter.unusedVariables false

def bareRows : List (List Int) := [[0, 12, 10, 6], [14, 2, 4, 8]]
def bareG : Nat := 0
/-- The table of columns in memory. -/
def TabC (w : World) : Prop := ∀ j, j < 8 → w.cell? ⟨0, j, none⟩ = some (.int .u32 (bareT.getD j 0))
theorem TabC.below {w w' : World} {B : Nat} (h : TabC w) (hb : Below B w w') (h0 : bareG < B) : TabC w' := fun j hj => (hb.cell (p := ⟨0, j, none⟩) h0).trans (h j hj)
theorem TabC.lt {w : World} (h : TabC w) : bareG < w.heap.size := World.block_lt_of_cell? w ⟨0, 0, none⟩ (h 0 (by decide))
theorem TabC.drewN {w : World} (h : TabC w) (k : Nat) : TabC (w.drewN k) := h
theorem TabC.alloc {w : World} (h : TabC w) (o : Obj) : TabC (w.alloc o) := h.below ((Below.refl _ _).alloc (Nat.le_refl _) o) h.lt
/-- Both tables of messages. -/
def Tab2 (w : World) : Prop := TabP w ∧ TabC w
def tab2G : Nat := max prodG bareG
theorem Tab2.below {w w' : World} {B : Nat} (h : Tab2 w) (hb : Below B w w') (h0 : tab2G < B) : Tab2 w' := ⟨h.1.below hb (by unfold tab2G at h0; omega), h.2.below hb (by unfold tab2G at h0; omega)⟩
theorem Tab2.lt {w : World} (h : Tab2 w) : tab2G < w.heap.size := by have := h.1.lt; have := h.2.lt; unfold tab2G; omega
theorem Tab2.drewN {w : World} (h : Tab2 w) (k : Nat) : Tab2 (w.drewN k) := h
theorem Tab2.alloc {w : World} (h : Tab2 w) (o : Obj) : Tab2 (w.alloc o) := ⟨h.1.alloc o, h.2.alloc o⟩
def IsM (m : Int) : Prop := 0 ≤ m ∧ m ≤ 4095
theorem message_parity (m : Int) (w : World) (h : IsM m) :
    Calls Tryz.prog 93 #[.int .u16 m] w fun e w' => e = .returned (.int .i64 (m / 64 % 2)) ∧ w = w' := by
  obtain ⟨h0, h1⟩ := h
  go_enter Tryz.func93, Tryz.ntmps93
  go_wp2
  go_ret
  exact ⟨rfl, rfl⟩
theorem message_hasTop (m : Int) (c : Nat) (w : World) (h : IsM m) (hc : c < 6) :
    Calls Tryz.prog 94 #[.int .u16 m, .int .i64 c] w fun e w' => e = .returned (.bool (topB m c)) ∧ w = w' := by
  obtain ⟨h0, h1⟩ := h
  obtain rfl | rfl | rfl | rfl | rfl | rfl : c = 0 ∨ c = 1 ∨ c = 2 ∨ c = 3 ∨ c = 4 ∨ c = 5 := by omega
  all_goals
    go_enter Tryz.func94, Tryz.ntmps94
    go_wp2
    go_ret
    exact ⟨ret_b (by unfold topB; simp; try rfl), rfl⟩
set_option maxHeartbeats 2000000 in
theorem message_scores (m : Int) (w : World) (h : IsM m) (hT : TabP w) :
    Calls Tryz.prog 92 #[.int .u16 m] w fun r w' => r = .returned (.agg (vals .u8 (rowM m)).toArray) ∧ Below w.heap.size w w' := by
  show Calls _ _ _ _ fun r w' => r = .returned (.agg #[.int .u8 (m % 4), .int .u8 (m / 4 % 4), .int .u8 (m / 16 % 4), .int .u8 (hexF (m % 4) (m / 4 % 4) (m / 16 % 4) 1), .int .u8 (hexF (m % 4) (m / 4 % 4) (m / 16 % 4) 2), .int .u8 (hexF (m % 4) (m / 4 % 4) (m / 16 % 4) 3)]) ∧ Below w.heap.size w w'
  obtain ⟨h0, h1⟩ := h
  have D1 : IsD (m % 4) := ⟨by omega, by omega⟩
  have D2 : IsD (m / 4 % 4) := ⟨by omega, by omega⟩
  have D3 : IsD (m / 16 % 4) := ⟨by omega, by omega⟩
  go_enter Tryz.func92, Tryz.ntmps92
  go_wp2
  refine wp_loop_rounds 4 ?_
  iterate 4 (rw [rounds_succ]; go_wp2_with fail)
  refine (hexRowOf_calls _ _ _ _ D1 D2 D3 (by repeat (first | assumption | apply TabP.alloc))).mono ?_
  rintro e w1 ⟨rfl, b1⟩
  generalize hy1 : hexF (m % 4) (m / 4 % 4) (m / 16 % 4) 1 = y1
  have HY1 := Lib.hid hy1
  clear hy1
  generalize hy2 : hexF (m % 4) (m / 4 % 4) (m / 16 % 4) 2 = y2
  have HY2 := Lib.hid hy2
  clear hy2
  generalize hy3 : hexF (m % 4) (m / 4 % 4) (m / 16 % 4) 3 = y3
  have HY3 := Lib.hid hy3
  clear hy3
  have Q := ((Blk.new w 120 #[.int .u8 0, .int .u8 0, .int .u8 0, .int .u8 0, .int .u8 0, .int .u8 0]).alloc (.cells #[.int .u8 (m % 4), .int .u8 (m / 4 % 4), .int .u8 (m / 16 % 4)] 141)).below b1 (by simp only [alloc_sz]; omega)
  obtain ⟨q0, q1, q2, q3, q4, q5, qf⟩ := Q.six
  have HQ := Lib.hid Q
  have HB := Lib.hid ((((Below.refl w.heap.size w).alloc (Nat.le_refl _) (.cells #[.int .u8 0, .int .u8 0, .int .u8 0, .int .u8 0, .int .u8 0, .int .u8 0] 120)).alloc (by simp) (.cells #[.int .u8 (m % 4), .int .u8 (m / 4 % 4), .int .u8 (m / 16 % 4)] 141)).trans (b1.mono (by simp only [alloc_sz]; omega)))
  clear Q b1 hT D1 D2 D3
  simp only []
  repeat (first | go_step | go_guarded | go_skip)
  exact bodyPost_ret (results_c rfl rfl HQ.out.set6 Tryz.underlying120 rfl rowInfo) rfl ⟨by rw [HY1.out, HY2.out, HY3.out], below_set6 HB.out (Nat.le_refl _)⟩
theorem idxR (r0 r1 r2 r3 r4 r5 : Int) (c : Nat) (hc : c < 6) (W : World) : (Instr.index 120 (.agg #[.int .u8 r0, .int .u8 r1, .int .u8 r2, .int .u8 r3, .int .u8 r4, .int .u8 r5]) (.int .i64 c)).run Tryz.prog W = .ok (.int .u8 ([r0, r1, r2, r3, r4, r5].getD c 0)) W := by
  obtain rfl | rfl | rfl | rfl | rfl | rfl : c = 0 ∨ c = 1 ∨ c = 2 ∨ c = 3 ∨ c = 4 ∨ c = 5 := by omega
  · exact idx0 _ _ _ _ _ _ W
  · exact idx1 _ _ _ _ _ _ W
  · exact idx2 _ _ _ _ _ _ W
  · exact idx3 _ _ _ _ _ _ W
  · exact idx4 _ _ _ _ _ _ W
  · exact idx5 _ _ _ _ _ _ W
set_option maxHeartbeats 2000000 in
theorem message_word (m : Int) (w : World) (h : IsM m) (hT : Tab2 w) :
    Calls Tryz.prog 49 #[.int .u16 m] w fun r w' => r = .returned (.int .u32 (codeOf m)) ∧ Below w.heap.size w w' := by
  rw [← wordM_code m h.1 h.2]
  have hw6 := wordTo_rng m 6 (by omega)
  have HM := Lib.hid (show wordM m = if wt (andI (wordTo m 6) 1118481) % 2 = m / 64 % 2 then wordTo m 6 else xorI (wordTo m 6) 15 from rfl)
  obtain ⟨p, hp⟩ := fin2 (n := m / 64 % 2) (by omega)
  have hrow : ∃ r0 r1 r2 r3 r4 r5 : Int, rowM m = [r0, r1, r2, r3, r4, r5] := ⟨_, _, _, _, _, _, rfl⟩
  obtain ⟨r0, r1, r2, r3, r4, r5, hr⟩ := hrow
  have HR := Lib.hid hr
  have hC := hT.2
  have HP := Lib.hid hp
  go_enter Tryz.func49, Tryz.ntmps49
  go_wp2_with fail
  refine (message_scores m _ h hT.1).mono ?_
  rintro e w1 ⟨rfl, b1⟩
  rw [HR.out]
  have hC1 := Lib.hid (hC.below b1 hC.lt)
  have HB := Lib.hid b1
  have HH := Lib.hid h
  have HHP := Lib.hid (show m / 64 % 2 = ((p.val : Nat) : Int) from hp)
  have hp2 := p.isLt
  clear hr hp hC b1 h hT
  generalize p.val = P at *
  have HX := Lib.hid (idxR r0 r1 r2 r3 r4 r5)
  show (_ : Prop)
  simp only [vals, List.map_cons, List.map_nil]
  go_wp2_with fail
  go_loop [3, 4, 5, 6, 9] (fun v _ _ _ i => ∃ c : Nat, c ≤ 6 ∧ i = .int .i64 c ∧ v = .int .u32 (wordTo m c)) (fun _ _ _ _ i => 6 - (intOf i).toNat)
  case atStart => exact ⟨0, by omega, rfl, rfl⟩
  case round =>
    obtain ⟨c, hc, rfl, rfl⟩ := hrel
    by_cases hlt : c < 6
    · have hx := HX.out c hlt
      have hq := wordTo_rng m c hc
      have hpr := partM_rng m c
      have hbr := bareM_rng m c
      have hsr := shift_rng (partM m c) c hlt hpr.1 hpr.2
      have HS := Lib.hid (show wordTo m (c + 1) = xorI (wordTo m c) (partM m c * 2 ^ (4 * c)) from rfl)
      obtain ⟨s, hs⟩ := (rowM_d m c).fin
      have hs4 := s.isLt
      have hb : bareT.getD (P * 4 + s.val) 0 = bareM m c := by
        unfold bareM; rw [HHP.out, hs]; rfl
      rw [← HR.out, hs] at hx
      have hcell := hC1.out (P * 4 + s.val) (by omega)
      rw [hb] at hcell
      generalize s.val = Z at *
      clear hb hs
      have hsh : partM m c * 2 ^ (c * 4) % 4294967296 = partM m c * 2 ^ (4 * c) := by rw [Nat.mul_comm c 4]; omega
      have HSH := Lib.hid hsh
      clear hsh
      rcases ht : topB m c with _ | _
      · have hpm : partM m c = bareM m c := by unfold partM; rw [ht]; rfl
        rw [← hpm] at hcell hbr
        generalize wordTo m c = V at *
        generalize partM m c = X at *
        have HT := Lib.hid ht
        clear ht hpm
        go_wp2_with (first
          | (go_at_call 93; refine (message_parity _ _ HH.out).mono ?_; rintro e w' ⟨rfl, rfl⟩; rw [HHP.out])
          | (go_at_call 94; refine (message_hasTop _ _ _ HH.out hlt).mono ?_; rintro e w' ⟨rfl, rfl⟩; rw [HT.out])
          | (go_at_call 82; refine (placeAt_calls _ _ _ (by omega) (by omega) (by omega) (by omega)).mono ?_; rintro e w' ⟨rfl, rfl⟩)
          | (go_at_call 52; rw [HSH.out]; refine (word_add _ _ _ (by omega) (by omega) (by omega) (by omega)).mono ?_; rintro e w' ⟨rfl, rfl⟩)
          | (go_at_call 52; refine (word_add _ _ _ (by omega) (by omega) (by omega) (by omega)).mono ?_; rintro e w' ⟨rfl, rfl⟩))
        go_round
        case rel => exact ⟨c + 1, by omega, by go_num, by rw [HS.out]⟩
        case measure => simp [intOf]; omega
      · have hpm : xorI (bareM m c) 15 = partM m c := by unfold partM; rw [ht]; rfl
        generalize wordTo m c = V at *
        generalize partM m c = X at *
        generalize bareM m c = Y at *
        have HT := Lib.hid ht
        have HPM := Lib.hid hpm
        clear ht hpm
        go_wp2_with (first
          | (go_at_call 93; refine (message_parity _ _ HH.out).mono ?_; rintro e w' ⟨rfl, rfl⟩; rw [HHP.out])
          | (go_at_call 94; refine (message_hasTop _ _ _ HH.out hlt).mono ?_; rintro e w' ⟨rfl, rfl⟩; rw [HT.out])
          | (go_at_call 82; refine (placeAt_calls _ _ _ (by omega) (by omega) (by omega) (by omega)).mono ?_; rintro e w' ⟨rfl, rfl⟩)
          | (go_at_call 52; rw [HSH.out]; refine (word_add _ _ _ (by omega) (by omega) (by omega) (by omega)).mono ?_; rintro e w' ⟨rfl, rfl⟩)
          | (go_at_call 52; refine (word_add _ _ _ (by omega) (by omega) (by omega) (by omega)).mono ?_; rintro e w' ⟨rfl, rfl⟩; rw [HPM.out]))
        go_round
        case rel => exact ⟨c + 1, by omega, by go_num, by rw [HS.out]⟩
        case measure => simp [intOf]; omega
    · obtain rfl : c = 6 := by omega
      have hm6 := andI_nonneg (wordTo m 6) 1118481
      have hm7 := andI_le (wordTo m 6) 1118481 (by omega)
      have hwr := wt_range (andI (wordTo m 6) 1118481)
      have hz : (wt (andI (wordTo m 6) 1118481)) % 2 = 0 ∨ (wt (andI (wordTo m 6) 1118481)) % 2 = 1 := by omega
      obtain ⟨z, hz⟩ := fin2 hz
      have hz2 := z.isLt
      have HMM := HM
      rw [HHP.out, hz] at HMM
      have HZ := Lib.hid hz
      generalize wordTo m 6 = V at *
      generalize z.val = Z at *
      generalize hW : wt (andI V 1118481) = W at *
      have HW := Lib.hid hW
      clear HM hz hW
      have hpz : ((Z : Int) = (P : Int)) ↔ Z = P := by omega
      by_cases he : Z = P
      · subst he
        have HF := Lib.hid (HMM.out.trans (if_pos rfl))
        have hne : (W % 2 != (Z : Int)) = false := by rw [HZ.out]; simp
        clear HMM hpz
        go_wp2_with (first
          | (go_at_call 93; refine (message_parity _ _ HH.out).mono ?_; rintro e w' ⟨rfl, rfl⟩; rw [HHP.out])
          | (go_at_call 95; refine (word_meet _ _ _ (by omega) (by omega) (by omega) (by omega)).mono ?_; rintro e w' ⟨rfl, rfl⟩)
          | (go_at_call 96; refine (word_weight _ _ (by omega) (by omega)).mono ?_; rintro e w' ⟨he, k, rfl⟩; rw [HW.out] at he; subst he)
          | (go_at_call 52; refine (word_add _ _ _ (by omega) (by omega) (by omega) (by omega)).mono ?_; rintro e w' ⟨rfl, rfl⟩))
        go_ret
        exact ⟨ret_i HF.out.symm, below_drewN HB.out _⟩
      · have HF := Lib.hid (HMM.out.trans (if_neg (fun h => he (hpz.1 h))))
        have hne : (W % 2 != (P : Int)) = true := by rw [HZ.out]; exact bne_iff_ne.2 (fun h => he (hpz.1 h))
        clear HMM hpz he
        go_wp2_with (first
          | (go_at_call 93; refine (message_parity _ _ HH.out).mono ?_; rintro e w' ⟨rfl, rfl⟩; rw [HHP.out])
          | (go_at_call 95; refine (word_meet _ _ _ (by omega) (by omega) (by omega) (by omega)).mono ?_; rintro e w' ⟨rfl, rfl⟩)
          | (go_at_call 96; refine (word_weight _ _ (by omega) (by omega)).mono ?_; rintro e w' ⟨he, k, rfl⟩; rw [HW.out] at he; subst he)
          | (go_at_call 52; refine (word_add _ _ _ (by omega) (by omega) (by omega) (by omega)).mono ?_; rintro e w' ⟨rfl, rfl⟩))
        go_ret
        exact ⟨ret_i HF.out.symm, below_drewN HB.out _⟩
end Go.Proofs.YtiodikflmijhkaaGreatDoor
/- Contracts of CodeOf, of the program and of the model. -/
namespace Go.Proofs.YtiodikflmijhkaaGreatDoor
open Go.RowKit
set_option linter.unusedVariables false

end Go.Proofs.YtiodikflmijhkaaGreatDoor
end

section
namespace Go.Proofs.YtiodikflmijhkaaGreatDoor
open Go.RowKit Go.Shelf
attribute [local go_sem] Oper.semAt_some
set_option linter.unusedVariables false

/-- The table of math/bits lies in its variable. -/
def TabB (w : World) : Prop := ∀ j, j < Lib.deBruijn32tab.length → w.cell? ⟨1, j, none⟩ = some (.int .u8 (Lib.deBruijn32tab.getD j 0))
theorem TabB.below {w w' : World} {B : Nat} (h : TabB w) (hb : Below B w w') (h0 : 1 < B) : TabB w' := fun j hj => (hb.cell (p := ⟨1, j, none⟩) h0).trans (h j hj)
theorem TabB.lt {w : World} (h : TabB w) : 1 < w.heap.size := World.block_lt_of_cell? w ⟨1, 0, none⟩ (h 0 (by decide))
theorem TabB.drewN {w : World} (h : TabB w) (k : Nat) : TabB (w.drewN k) := h

set_option maxHeartbeats 1000000 in
theorem tz32_core (x k idx : Nat) (w : World) (hx0 : ((x : Int) == 0) = false)
    (key : bits BinOp.and IntKind.u32 (x : Int) (-(x : Int) % 4294967296) * 125613361 % 4294967296 / 134217728 = (idx : Int))
    (hi : idx < 32) (hk : k < 32) (hcell : w.cell? ⟨1, idx, none⟩ = some (.int .u8 k)) :
    Calls Tryz.prog 128 #[.int .u32 x] w fun e w' => e = .returned (.int .i64 k) ∧ w = w' := by
  go_enter Tryz.func128, Tryz.ntmps128
  go_wp2_with (simp only [key])
  go_ret
  exact ⟨rfl, rfl⟩
theorem tz32_calls (x : Nat) (w : World) (h0 : x ≠ 0) (hx : x < 16777216) (hT : TabB w) :
    Calls Tryz.prog 128 #[.int .u32 x] w fun e w' => e = .returned (.int .i64 (Lib.ctz 32 x : Nat)) ∧ w = w' := by
  obtain ⟨hlow, hk⟩ := Lib.lowest_bit 32 x h0 (by omega)
  obtain ⟨hi, htab⟩ := Lib.deBruijn32_at _ hk
  have hcell := hT _ hi
  rw [htab] at hcell
  exact tz32_core x _ _ w (by simp; omega) (tz32_key x _ (by omega) h0 hlow) hi hk hcell

/-- A list of places that reads as the word's. -/
theorem plF_ex (W : Nat) : ∃ xs : List (Fin 24), xs.map (fun x => x.val) = pl W := by
  have h := pl_lt W
  generalize pl W = l at *
  induction l with
  | nil => exact ⟨[], rfl⟩
  | cons a l ih =>
    obtain ⟨xs, hx⟩ := ih (fun x hx => h x (by simp [hx]))
    exact ⟨⟨a, h a (by simp)⟩ :: xs, by simp [hx]⟩

set_option maxHeartbeats 1000000 in
/-- The function value that 'places' hands back: it captures a box that holds the word. -/
theorem places_in (n : Nat) (R : Int) (w : World) :
    CallsIn Fence.wide n Tryz.prog 90 #[.int .u32 R] w fun e w' => e = .returned (.func (.func 127) #[] #[.pointer (some ⟨w.heap.size, 0, none⟩)]) ∧ w' = w.alloc (.cells #[.int .u32 R] 58) := by
  refine callsIn_of_wp Tryz.func90 rfl trivial ?_ rfl
  simp only [Tryz.ntmps90, List.size_toArray, List.length_cons, List.length_nil, Nat.reduceAdd, Nat.reduceSub, Array.replicate_succ, Array.replicate_zero, List.push_toArray, List.append_toArray, List.nil_append, List.cons_append]
  gi_wp2
  go_ret
  exact ⟨rfl, rfl⟩
set_option maxRecDepth 100000 in
set_option maxHeartbeats 2000000 in
/-- The iterator: every place in ascending order, for every loop body that keeps what lay below n₀. -/
theorem places1_in (n : Nat) (hn : 1 ≤ n) (l Bn n₀ : Nat) (R : Nat) (hR : R < 16777216) (xs : List (Fin 24)) (hxs : xs.map (fun x => x.val) = pl R) (J Jx : List (Fin 24) → World → Prop)
    (hY : ∀ pre x W, J pre W → pre.length < xs.length → YieldAt Fence.wide (n - 1) Tryz.prog l #[.int .i64 (x.val : Nat)] W fun e W' =>
      (e = .returned (.bool true) ∧ J (pre ++ [x]) W' ∧ Below n₀ W W') ∨ (e = .returned (.bool false) ∧ Jx (pre ++ [x]) W'))
    (W : World) (hBn : W.cell? ⟨Bn, 0, none⟩ = some (.int .u32 R)) (hT : TabB W) (hn₀ : 1 < n₀) (h0 : J [] W) :
    CallsIn Fence.wide n Tryz.prog 127 #[.func (.yield l) #[] #[], .pointer (some ⟨Bn, 0, none⟩)] W fun e W' => (∃ v, e = .returned v) ∧
      ((∃ ys, ys = xs ∧ J ys W') ∨ (∃ pre, pre <+: xs ∧ Jx pre W')) := by
  refine callsIn_of_wp Tryz.func127 rfl trivial ?_ rfl
  simp only [Tryz.ntmps127, List.size_toArray, List.length_cons, List.length_nil, Nat.reduceAdd, Nat.reduceSub, Array.replicate_succ, Array.replicate_zero, List.push_toArray, List.append_toArray, List.nil_append, List.cons_append]
  gi_wp2
  gi_loopw [3] (fun p wr => ∃ (pre rest : List (Fin 24)) (V : Nat), p = .int .u32 V ∧ V < 16777216 ∧ Hid (xs = pre ++ rest) ∧ Hid (rest.map (fun x => x.val) = pl V) ∧ Hid (TabB wr) ∧ J pre wr)
    (fun p wr => (intOf p).toNat)
  case atStart =>
    exact ⟨[], xs, R, rfl, hR, Lib.hid rfl, Lib.hid hxs, Lib.hid hT, h0⟩
  case round =>
    obtain ⟨pre, rest, V, rfl, hV, hx, hl, hTr, hJs⟩ := hrel
    by_cases hz : V = 0
    · subst hz
      have hr : rest = [] := by have := hl.out; rw [pl_zero] at this; simpa using this
      subst hr
      gi_wp2
      go_end0
      exact ⟨⟨_, rfl⟩, .inl ⟨pre, by have := hx.out; simpa using this.symm, hJs⟩⟩
    · obtain ⟨hp, hc, hlt, hlt2⟩ := pl_step V hz hV
      obtain ⟨x, rest', rfl, hxv, hrest⟩ : ∃ x rest', rest = x :: rest' ∧ x.val = Lib.ctz 32 V ∧ rest'.map (fun x => x.val) = pl (V &&& (V - 1)) := by
        have := hl.out
        rw [hp] at this
        match rest, this with
        | x :: rest', h => simp only [List.map_cons, List.cons.injEq] at h; exact ⟨x, rest', rfl, h.1, h.2⟩
      obtain ⟨fn, tmps, assign, body, hy, hRn⟩ := hY pre x wr hJs (by rw [hx.out]; simp)
      have hz1 : ((V : Int) != 0) = true := by simp; omega
      have hz2 : ((V : Int) == 0) = false := by simp; omega
      rw [hxv] at hy
      have HX := Lib.hid hx
      have HR := Lib.hid hrest
      have HP := Lib.hid hz
      clear hp hxv hrest hl hz
      gi_wp2_with (refine ⟨trivial, ?_⟩; gi_at_call 128; refine (callsIn_wide.2 (tz32_calls V wr HP.out hV hTr.out)).mono ?_; rintro e w' ⟨rfl, rfl⟩)
      refine hRn.mono ?_
      rintro e W3 (⟨rfl, hJ3, hk3⟩ | ⟨rfl, hJx3⟩)
      · have hvv : bits .and .u32 (V : Int) ((V : Int) - 1) = ((V &&& (V - 1) : Nat) : Int) := by
          rw [and_u32 _ _ (by omega) (by omega) (by have := HP.out; omega) (by omega)]
          unfold andI
          rw [show ((V : Int) - 1).toNat = V - 1 by omega, Int.toNat_natCast]
        have hV1 : 1 ≤ V := by have := HP.out; omega
        have HT3 := Lib.hid (hTr.out.below hk3 hn₀)
        gi_wp2
        go_roundw
        case rel => exact ⟨pre ++ [x], rest', V &&& (V - 1), rfl, hlt2, Lib.hid (by rw [hx.out]; simp), HR, HT3, hJ3⟩
        case measure => simp [intOf]; omega
      · gi_wp2
        refine bodyPost_ret (results_none rfl _ _ _) rfl ?_
        exact ⟨⟨_, rfl⟩, .inr ⟨pre ++ [x], ⟨rest', by rw [hx.out]; simp⟩, hJx3⟩⟩
theorem places_stops (n : Nat) (hn : 1 ≤ n) (Bn n₀ : Nat) (R : Nat) (hR : R < 16777216) (xs : List (Fin 24)) (hxs : xs.map (fun x => x.val) = pl R) (w : World) (hBn : Bn < w.heap.size) (hn₁ : n₀ ≤ w.heap.size) (hn₀ : 1 < n₀)
    (hc : w.cell? ⟨Bn, 0, none⟩ = some (.int .u32 R)) (hT : TabB w) :
    SeqStopsK Fence.wide n Tryz.prog 127 #[.pointer (some ⟨Bn, 0, none⟩)] (fun x : Fin 24 => #[Value.int .i64 (x.val : Nat)]) (Below n₀) (fun ys => ys = xs) (fun pre => pre <+: xs) xs.length w := fun l J Jx W hW _ _ hY h0 =>
  places1_in n hn l Bn n₀ R hR xs hxs J Jx hY W ((hW.cell (p := ⟨Bn, 0, none⟩) hBn).trans hc) (hT.below hW (by have := hT.lt; omega)) hn₀ h0
end Go.Proofs.YtiodikflmijhkaaGreatDoor
end
