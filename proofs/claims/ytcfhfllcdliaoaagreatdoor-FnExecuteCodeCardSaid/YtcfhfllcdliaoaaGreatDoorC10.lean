/- The iterator over the places of a word, and the loops over it. -/
import Derived.RangeFuncBox
import Derived.RangeFuncNested
import Derived.RangeFuncBound
import Derived.RangeFuncCalls
import Derived.RangeFuncLeaves
import Derived.Shelf.Abstract
import Derived.Shelf.Spec.TrailingZeros
import Derived.OwnWalkIn
import Derived.TacticsInMore
import Derived.LoopNIn
import Derived.LoopIn
import Derived.Maps.AppendAt
import Derived.Test.YtcfhfllcdliaoaaGreatDoorQ1
import Derived.Test.YtcfhfllcdliaoaaGreatDoorP0
import Derived.Test.YtcfhfllcdliaoaaGreatDoorP1
namespace Go.Proofs.YtcfhfllcdliaoaaGreatDoor
open Go.RowKit Go.Shelf
attribute [local go_sem] Oper.semAt_some
set_option linter.unusedVariables false

/-- The table of math/bits lies in its variable. -/
def TabB (w : World) : Prop := ∀ j, j < Lib.deBruijn32tab.length → w.cell? ⟨6, j, none⟩ = some (.int .u8 (Lib.deBruijn32tab.getD j 0))
theorem TabB.below {w w' : World} {B : Nat} (h : TabB w) (hb : Below B w w') (h0 : 6 < B) : TabB w' := fun j hj => (hb.cell (p := ⟨6, j, none⟩) h0).trans (h j hj)
theorem TabB.lt {w : World} (h : TabB w) : 6 < w.heap.size := World.block_lt_of_cell? w ⟨6, 0, none⟩ (h 0 (by decide))
theorem TabB.drewN {w : World} (h : TabB w) (k : Nat) : TabB (w.drewN k) := h

set_option maxHeartbeats 1000000 in
theorem tz32_core (x k idx : Nat) (w : World) (hx0 : ((x : Int) == 0) = false)
    (key : bits BinOp.and IntKind.u32 (x : Int) (-(x : Int) % 4294967296) * 125613361 % 4294967296 / 134217728 = (idx : Int))
    (hi : idx < 32) (hk : k < 32) (hcell : w.cell? ⟨6, idx, none⟩ = some (.int .u8 k)) :
    Calls Tryz.prog 221 #[.int .u32 x] w fun e w' => e = .returned (.int .i64 k) ∧ w = w' := by
  go_enter Tryz.func221, Tryz.ntmps221
  go_wp2_with (simp only [key])
  go_ret
  exact ⟨rfl, rfl⟩
theorem tz32_calls (x : Nat) (w : World) (h0 : x ≠ 0) (hx : x < 16777216) (hT : TabB w) :
    Calls Tryz.prog 221 #[.int .u32 x] w fun e w' => e = .returned (.int .i64 (Lib.ctz 32 x : Nat)) ∧ w = w' := by
  obtain ⟨hlow, hk⟩ := Lib.lowest_bit 32 x h0 (by omega)
  obtain ⟨hi, htab⟩ := Lib.deBruijn32_at _ hk
  have hcell := hT _ hi
  rw [htab] at hcell
  exact tz32_core x _ _ w (by simp; omega) (tz32_key x _ (by omega) h0 hlow) hi hk hcell

/-- A list of places that reads as the word's. -/
theorem plF_ex (W : Nat) : ∃ xs : List (Fin 24), xs.map (fun x => x.val) = pl W := by
  have h := pl_lt W
  generalize pl W = l at *
  induction l with
  | nil => exact ⟨[], rfl⟩
  | cons a l ih =>
    obtain ⟨xs, hx⟩ := ih (fun x hx => h x (by simp [hx]))
    exact ⟨⟨a, h a (by simp)⟩ :: xs, by simp [hx]⟩

theorem plF_vals (xs : List (Fin 24)) (R : Nat) (h : xs.map (fun x => x.val) = pl R) : xs.length = (plI R).length ∧ vals .i64 (plI R) = xs.map fun x => Value.int .i64 (x.val : Nat) := by
  unfold plI vals
  rw [← h]
  simp
set_option maxHeartbeats 1000000 in
/-- The function value that 'places' hands back: it captures a box that holds the word. -/
theorem places_in (n : Nat) (R : Int) (w : World) :
    CallsIn Fence.wide n Tryz.prog 183 #[.int .u32 R] w fun e w' => e = .returned (.func (.func 220) #[] #[.pointer (some ⟨w.heap.size, 0, none⟩)]) ∧ w' = w.alloc (.cells #[.int .u32 R] 55) := by
  refine callsIn_of_wp Tryz.func183 rfl trivial ?_ rfl
  simp only [Tryz.ntmps183, List.size_toArray, List.length_cons, List.length_nil, Nat.reduceAdd, Nat.reduceSub, Array.replicate_succ, Array.replicate_zero, List.push_toArray, List.append_toArray, List.nil_append, List.cons_append]
  gi_wp2
  go_ret
  exact ⟨rfl, rfl⟩
set_option maxRecDepth 100000 in
set_option maxHeartbeats 2000000 in
/-- The iterator: every place in ascending order, for every loop body that keeps what lay below n₀. -/
theorem places1_in (n : Nat) (hn : 1 ≤ n) (l Bn n₀ : Nat) (R : Nat) (hR : R < 16777216) (xs : List (Fin 24)) (hxs : xs.map (fun x => x.val) = pl R) (J Jx : List (Fin 24) → World → Prop)
    (hY : ∀ pre x W, J pre W → pre.length < xs.length → YieldAt Fence.wide (n - 1) Tryz.prog l #[.int .i64 (x.val : Nat)] W fun e W' =>
      (e = .returned (.bool true) ∧ J (pre ++ [x]) W' ∧ Below n₀ W W') ∨ (e = .returned (.bool false) ∧ Jx (pre ++ [x]) W'))
    (W : World) (hBn : W.cell? ⟨Bn, 0, none⟩ = some (.int .u32 R)) (hT : TabB W) (hn₀ : 6 < n₀) (h0 : J [] W) :
    CallsIn Fence.wide n Tryz.prog 220 #[.func (.yield l) #[] #[], .pointer (some ⟨Bn, 0, none⟩)] W fun e W' => (∃ v, e = .returned v) ∧
      ((∃ ys, ys = xs ∧ J ys W') ∨ (∃ pre, pre <+: xs ∧ Jx pre W')) := by
  refine callsIn_of_wp Tryz.func220 rfl trivial ?_ rfl
  simp only [Tryz.ntmps220, List.size_toArray, List.length_cons, List.length_nil, Nat.reduceAdd, Nat.reduceSub, Array.replicate_succ, Array.replicate_zero, List.push_toArray, List.append_toArray, List.nil_append, List.cons_append]
  gi_wp2
  gi_loopw [3] (fun p wr => ∃ (pre rest : List (Fin 24)) (V : Nat), p = .int .u32 V ∧ V < 16777216 ∧ Hid (xs = pre ++ rest) ∧ Hid (rest.map (fun x => x.val) = pl V) ∧ Hid (TabB wr) ∧ J pre wr)
    (fun p wr => (intOf p).toNat)
  case atStart =>
    exact ⟨[], xs, R, rfl, hR, Lib.hid rfl, Lib.hid hxs, Lib.hid hT, h0⟩
  case round =>
    obtain ⟨pre, rest, V, rfl, hV, hx, hl, hTr, hJs⟩ := hrel
    by_cases hz : V = 0
    · subst hz
      have hr : rest = [] := by have := hl.out; rw [pl_zero] at this; simpa using this
      subst hr
      gi_wp2
      go_end0
      exact ⟨⟨_, rfl⟩, .inl ⟨pre, by have := hx.out; simpa using this.symm, hJs⟩⟩
    · obtain ⟨hp, hc, hlt, hlt2⟩ := pl_step V hz hV
      obtain ⟨x, rest', rfl, hxv, hrest⟩ : ∃ x rest', rest = x :: rest' ∧ x.val = Lib.ctz 32 V ∧ rest'.map (fun x => x.val) = pl (V &&& (V - 1)) := by
        have := hl.out
        rw [hp] at this
        match rest, this with
        | x :: rest', h => simp only [List.map_cons, List.cons.injEq] at h; exact ⟨x, rest', rfl, h.1, h.2⟩
      obtain ⟨fn, tmps, assign, body, hy, hRn⟩ := hY pre x wr hJs (by rw [hx.out]; simp)
      have hz1 : ((V : Int) != 0) = true := by simp; omega
      have hz2 : ((V : Int) == 0) = false := by simp; omega
      rw [hxv] at hy
      have HX := Lib.hid hx
      have HR := Lib.hid hrest
      have HP := Lib.hid hz
      clear hp hxv hrest hl hz
      gi_wp2_with (refine ⟨trivial, ?_⟩; gi_at_call 221; refine (callsIn_wide.2 (tz32_calls V wr HP.out hV hTr.out)).mono ?_; rintro e w' ⟨rfl, rfl⟩)
      refine hRn.mono ?_
      rintro e W3 (⟨rfl, hJ3, hk3⟩ | ⟨rfl, hJx3⟩)
      · have hvv : bits .and .u32 (V : Int) ((V : Int) - 1) = ((V &&& (V - 1) : Nat) : Int) := by
          rw [and_u32 _ _ (by omega) (by omega) (by have := HP.out; omega) (by omega)]
          unfold andI
          rw [show ((V : Int) - 1).toNat = V - 1 by omega, Int.toNat_natCast]
        have hV1 : 1 ≤ V := by have := HP.out; omega
        have HT3 := Lib.hid (hTr.out.below hk3 hn₀)
        gi_wp2
        go_roundw
        case rel => exact ⟨pre ++ [x], rest', V &&& (V - 1), rfl, hlt2, Lib.hid (by rw [hx.out]; simp), HR, HT3, hJ3⟩
        case measure => simp [intOf]; omega
      · gi_wp2
        refine bodyPost_ret (results_none rfl _ _ _) rfl ?_
        exact ⟨⟨_, rfl⟩, .inr ⟨pre ++ [x], ⟨rest', by rw [hx.out]; simp⟩, hJx3⟩⟩
theorem places_stops (n : Nat) (hn : 1 ≤ n) (Bn n₀ : Nat) (R : Nat) (hR : R < 16777216) (xs : List (Fin 24)) (hxs : xs.map (fun x => x.val) = pl R) (w : World) (hBn : Bn < w.heap.size) (hn₁ : n₀ ≤ w.heap.size) (hn₀ : 6 < n₀)
    (hc : w.cell? ⟨Bn, 0, none⟩ = some (.int .u32 R)) (hT : TabB w) :
    SeqStopsK Fence.wide n Tryz.prog 220 #[.pointer (some ⟨Bn, 0, none⟩)] (fun x : Fin 24 => #[Value.int .i64 (x.val : Nat)]) (Below n₀) (fun ys => ys = xs) (fun pre => pre <+: xs) xs.length w := fun l J Jx W hW _ _ hY h0 =>
  places1_in n hn l Bn n₀ R hR xs hxs J Jx hY W ((hW.cell (p := ⟨Bn, 0, none⟩) hBn).trans hc) (hT.below hW (by have := hT.lt; omega)) hn₀ h0
theorem intRow10 : (Tryz.prog.info? 3).map (fun i => (i.zero, i.size, i.bytes)) = some (some (.int .i64 0), 1, 8) := by kernel_rfl
set_option maxRecDepth 100000 in
set_option maxHeartbeats 2000000 in
theorem iWordPlaces_in (R : Nat) (hR : R < 16777216) (w : World) (hT : TabB w) :
    CallsIn Fence.wide 6 Tryz.prog 132 #[.int .i64 R] w fun e w' => ∃ v, e = .returned (.tuple #[v, .bool true]) ∧ Own w' w.heap.size v (plI R) ∧ Below w.heap.size w w' := by
  obtain ⟨i0, hi, hz0, hz1, hz2⟩ := info_parts intRow10
  refine callsIn_of_wp_marks Tryz.func132 rfl trivial ?_ rfl
  simp only [Tryz.ntmps132, List.size_toArray, List.length_cons, List.length_nil, Nat.reduceAdd, Nat.reduceSub, Array.replicate_succ, Array.replicate_zero, List.push_toArray, List.append_toArray, List.nil_append, List.cons_append]
  obtain ⟨m, hm⟩ : ∃ m : Nat, wt (R : Int) = m := ⟨(wt (R : Int)).toNat, by have := (wt_range (R : Int)).1; omega⟩
  have hm24 : m ≤ 24 := by have := (wt_range (R : Int)).2; omega
  have HM := Lib.hid hm
  clear hm
  gi_wp2_with (first
    | (refine ⟨trivial, ?_⟩; gi_at_call 40; refine (callsIn_wide.2 (wordFrom_ok _ _ (by omega) (by omega))).mono ?_; rintro e w' ⟨rfl, rfl⟩)
    | (refine ⟨trivial, ?_⟩; gi_at_call 44; refine (callsIn_wide.2 (word_weight _ _ (by omega) (by omega))).mono ?_; rintro e w' ⟨he, k, rfl⟩; rw [HM.out] at he; subst he)
    | (gi_at_make; refine wpListIn_make_own _ rfl _ _ 61 rfl w.heap.size 3 i0 (.int .i64 0) 1 Tryz.underlying61 hi hz0 hz1 .i64 .i64 m m rfl rfl rfl (by rw [hz2]; omega) (by unfold maxLen; omega) (by simp) ?_; intro w1 hown hgrow; have hb1 : Below w.heap.size w w1 := (below_drewN (Below.refl _ _) k).grown hgrow (by simp) (by simp); have HO := Lib.hid hown; have HB := Lib.hid hb1; clear hown hgrow hb1)
    | (refine ⟨trivial, ?_⟩; gi_at_call 183; refine (places_in _ _ _).mono ?_; rintro e w' ⟨rfl, rfl⟩))
  have bO := Boxed.new w1 61 (.slice (some ⟨w.heap.size, 0, none⟩) 0 m)
  have bN := Boxed.new (w1.alloc (.cells #[.slice (some ⟨w.heap.size, 0, none⟩) 0 m] 61)) 55 (.int .u32 R)
  rw [World.size_alloc] at bN
  have hsz := HB.out.size
  have hB0 : Below w.heap.size w ((w1.alloc (.cells #[.slice (some ⟨w.heap.size, 0, none⟩) 0 m] 61)).alloc (.cells #[.int .u32 R] 55)) := (HB.out.alloc hsz _).alloc (by simp; omega) _
  obtain ⟨xs, hxs⟩ := plF_ex R
  have hv := plF_vals xs R hxs
  have HV := Lib.hid hv
  have hxl : xs.length ≤ 24 := by have := congrArg List.length hxs; have := pl_len R; simp at *; omega
  refine wpIn_rangeFunc_ownG rfl (by omega) (gf := 220) (lb := #[.pointer (some ⟨w1.heap.size + 1, 0, none⟩)]) rfl trivial (enters_of Tryz.func220 (by kernel_rfl) rfl)
    (places_stops 5 (by omega) (w1.heap.size + 1) w.heap.size R hR xs hxs _ (by simp) (by simp; omega) hT.lt bN.cell (hT.below hB0 hT.lt)) belowK_t (belowK_b (by simp; omega)) (Below.refl _ _) (fun _ => rfl)
    (fun pre W => (∃ v, Boxed W w1.heap.size 61 v ∧ W.ownsRow w.heap.size 3 1 v pre.length (pre.map fun x => Value.int .i64 (x.val : Nat)) ∧ True) ∧ Below w.heap.size w W)
    (fun _ _ _ => False)
    (OwnFrom.and (Go.Own.from (holdsRow_own w.heap.size w1.heap.size 61 3 1 (fun pre : List (Fin 24) => pre.length) (fun pre => pre.map fun x => Value.int .i64 (x.val : Nat)) (fun _ _ => True)) _) (ownFrom_below (Nat.le_refl _) (by simp; omega)))
    (fun _ _ _ _ _ hs _ _ => hs)
    ⟨⟨_, bO.alloc _, World.ownsRow.alloc (World.ownsRow.alloc HO.out _) _, trivial⟩, hB0⟩
    (fun x => { tmps := #[.int .i64 R, undef, .slice none 0 0, .bool false, .int .u32 R, .bool true, .pointer (some ⟨w1.heap.size, 0, none⟩), .int .i64 (x.val : Nat), .tuple #[.int .u32 R, .bool true], .int .i64 R, .tuple #[.int .u32 R, .bool true], .int .u32 R, .bool true, .bool true, .bool false, .int .u32 R, .int .i64 m, .slice (some ⟨w.heap.size, 0, none⟩) 0 m, .int .u32 R, .func (.func 220) #[] #[.pointer (some ⟨w1.heap.size + 1, 0, none⟩)], .int .i64 (x.val : Nat), undef, undef, undef, undef, undef], defers := [] }) ?assign ?body ?done ?stop
  case assign =>
    intro l x W K hK
    gi_wp2
    exact hK
  case body =>
    rintro l pre x W ⟨⟨v, hv, hrow, _⟩, hB⟩ hlt
    have hc := hv.cell
    gi_wp2_with (gi_at_builtin; refine wpListIn_append_own _ rfl _ _ 61 rfl w.heap.size 3 i0 (.int .i64 0) 1 8 Tryz.underlying61 hi hz0 hz1 hz2 rfl (by decide) _ _ _ rfl (hrow.alloc _) ⟨W.heap.size, 0, none⟩ 1 1 [.int .i64 (x.val : Nat)] rfl rfl (cell_one_new _ _ _) (by simp [Value.oneCell']) (by unfold maxLen; omega) (by omega) (by have := hB.size; simp; omega) ?_; intro v' w2 hown' hgrow _; obtain ⟨g', cap', rfl⟩ := ownsRow_succ hown'; obtain ⟨hv1, hv2, hr2, hk2, hb2⟩ := hv.appended (by decide) hrow hB.size hsz hown' hgrow; have hc1 := hv1.cell; have hf1 := hv1.frozen)
    exact ⟨hk2.from _, hb2, ⟨_, hv2, by simpa using hr2, trivial⟩, hB.trans hb2⟩
  case done =>
    rintro D ys W hD rfl ⟨⟨v, hv, hrow, _⟩, hB⟩ hK
    have hc := hv.cell
    gi_wp2
    refine ⟨by simp, .inl ⟨_, _, rfl, run_takeDeferred hK, ?_⟩⟩
    refine ⟨_, results_tmp2 rfl _ _ _, v, rfl, ?_, hB.trans (belowK_b (w := w) (Nat.le_refl _) W D _ _ (by simp at hD; omega) hK rfl rfl)⟩
    have := ownsRow_putObj hrow (.deferred none) hK rfl
    unfold Own
    rw [← HV.out.1, HV.out.2]
    exact this
  case stop =>
    rintro D c pre W _ _ h _
    exact h.elim
theorem iWordPlaces_ok (n : Int) (w : World) (h : IsW n) (hT : TabB w) :
    Calls Tryz.prog 132 #[.int .i64 n] w fun e w' => ∃ v, e = .returned (.tuple #[v, .bool true]) ∧ Own w' w.heap.size v (plI n.toNat) ∧ Below w.heap.size w w' := by
  obtain ⟨h0, h1⟩ := h
  obtain ⟨R, rfl⟩ := Int.eq_ofNat_of_zero_le h0
  exact callsIn_wide.1 (iWordPlaces_in R (by omega) w hT)
theorem iWordPlaces_no (n : Int) (w : World) (h : NoW n) :
    Calls Tryz.prog 132 #[.int .i64 n] w fun e w' => e = .returned (.tuple #[.slice none 0 0, .bool false]) ∧ w = w' := by
  go_enter Tryz.func132, Tryz.ntmps132
  go_wp2_with (go_at_call 40; refine (wordFrom_no _ _ h).mono ?_; rintro e w' ⟨rfl, rfl⟩)
  go_ret2
  exact ⟨rfl, rfl⟩
end Go.Proofs.YtcfhfllcdliaoaaGreatDoor
