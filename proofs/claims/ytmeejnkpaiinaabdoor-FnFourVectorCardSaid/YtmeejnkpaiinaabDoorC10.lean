/- The iterator over the places of a word, and the loops over it. -/
import Derived.RangeFuncBox
import Derived.RangeFuncNested
import Derived.RangeFuncBound
import Derived.RangeFuncCalls
import Derived.RangeFuncLeaves
import Derived.Shelf.Abstract
import Derived.Shelf.Spec.TrailingZeros
import Derived.OwnWalkIn
import Derived.TacticsInMore
import Derived.LoopNIn
import Derived.LoopIn
import Derived.Maps.AppendAt
import Derived.Test.YtmeejnkpaiinaabDoorQ1
import Derived.Test.YtmeejnkpaiinaabDoorP0
import Derived.Test.YtmeejnkpaiinaabDoorP1
namespace Go.Proofs.YtmeejnkpaiinaabDoor
open Go.RowKit Go.Shelf
attribute [local go_sem] Oper.semAt_some
set_option linter.unusedVariables false

/-- The table of math/bits lies in its variable. -/
def TabB (w : World) : Prop := ∀ j, j < Lib.deBruijn32tab.length → w.cell? ⟨1, j, none⟩ = some (.int .u8 (Lib.deBruijn32tab.getD j 0))
theorem TabB.below {w w' : World} {B : Nat} (h : TabB w) (hb : Below B w w') (h0 : 1 < B) : TabB w' := fun j hj => (hb.cell (p := ⟨1, j, none⟩) h0).trans (h j hj)
theorem TabB.lt {w : World} (h : TabB w) : 1 < w.heap.size := World.block_lt_of_cell? w ⟨1, 0, none⟩ (h 0 (by decide))
theorem TabB.drewN {w : World} (h : TabB w) (k : Nat) : TabB (w.drewN k) := h

set_option maxHeartbeats 1000000 in
theorem tz32_core (x k idx : Nat) (w : World) (hx0 : ((x : Int) == 0) = false)
    (key : bits BinOp.and IntKind.u32 (x : Int) (-(x : Int) % 4294967296) * 125613361 % 4294967296 / 134217728 = (idx : Int))
    (hi : idx < 32) (hk : k < 32) (hcell : w.cell? ⟨1, idx, none⟩ = some (.int .u8 k)) :
    Calls Tryd.prog 91 #[.int .u32 x] w fun e w' => e = .returned (.int .i64 k) ∧ w = w' := by
  go_enter Tryd.func91, Tryd.ntmps91
  go_wp2_with (simp only [key])
  go_ret
  exact ⟨rfl, rfl⟩
theorem tz32_calls (x : Nat) (w : World) (h0 : x ≠ 0) (hx : x < 16777216) (hT : TabB w) :
    Calls Tryd.prog 91 #[.int .u32 x] w fun e w' => e = .returned (.int .i64 (Lib.ctz 32 x : Nat)) ∧ w = w' := by
  obtain ⟨hlow, hk⟩ := Lib.lowest_bit 32 x h0 (by omega)
  obtain ⟨hi, htab⟩ := Lib.deBruijn32_at _ hk
  have hcell := hT _ hi
  rw [htab] at hcell
  exact tz32_core x _ _ w (by simp; omega) (tz32_key x _ (by omega) h0 hlow) hi hk hcell

/-- A list of places that reads as the word's. -/
theorem plF_ex (W : Nat) : ∃ xs : List (Fin 24), xs.map (fun x => x.val) = pl W := by
  have h := pl_lt W
  generalize pl W = l at *
  induction l with
  | nil => exact ⟨[], rfl⟩
  | cons a l ih =>
    obtain ⟨xs, hx⟩ := ih (fun x hx => h x (by simp [hx]))
    exact ⟨⟨a, h a (by simp)⟩ :: xs, by simp [hx]⟩

theorem plF_vals (xs : List (Fin 24)) (R : Nat) (h : xs.map (fun x => x.val) = pl R) : xs.length = (plI R).length ∧ vals .i64 (plI R) = xs.map fun x => Value.int .i64 (x.val : Nat) := by
  unfold plI vals
  rw [← h]
  simp
set_option maxHeartbeats 1000000 in
/-- The function value that 'places' hands back: it captures a box that holds the word. -/
theorem places_in (n : Nat) (R : Int) (w : World) :
    CallsIn Fence.wide n Tryd.prog 76 #[.int .u32 R] w fun e w' => e = .returned (.func (.func 90) #[] #[.pointer (some ⟨w.heap.size, 0, none⟩)]) ∧ w' = w.alloc (.cells #[.int .u32 R] 58) := by
  refine callsIn_of_wp Tryd.func76 rfl trivial ?_ rfl
  simp only [Tryd.ntmps76, List.size_toArray, List.length_cons, List.length_nil, Nat.reduceAdd, Nat.reduceSub, Array.replicate_succ, Array.replicate_zero, List.push_toArray, List.append_toArray, List.nil_append, List.cons_append]
  gi_wp2
  go_ret
  exact ⟨rfl, rfl⟩
set_option maxRecDepth 100000 in
set_option maxHeartbeats 2000000 in
/-- The iterator: every place in ascending order, for every loop body that keeps what lay below n₀. -/
theorem places1_in (n : Nat) (hn : 1 ≤ n) (l Bn n₀ : Nat) (R : Nat) (hR : R < 16777216) (xs : List (Fin 24)) (hxs : xs.map (fun x => x.val) = pl R) (J Jx : List (Fin 24) → World → Prop)
    (hY : ∀ pre x W, J pre W → pre.length < xs.length → YieldAt Fence.wide (n - 1) Tryd.prog l #[.int .i64 (x.val : Nat)] W fun e W' =>
      (e = .returned (.bool true) ∧ J (pre ++ [x]) W' ∧ Below n₀ W W') ∨ (e = .returned (.bool false) ∧ Jx (pre ++ [x]) W'))
    (W : World) (hBn : W.cell? ⟨Bn, 0, none⟩ = some (.int .u32 R)) (hT : TabB W) (hn₀ : 1 < n₀) (h0 : J [] W) :
    CallsIn Fence.wide n Tryd.prog 90 #[.func (.yield l) #[] #[], .pointer (some ⟨Bn, 0, none⟩)] W fun e W' => (∃ v, e = .returned v) ∧
      ((∃ ys, ys = xs ∧ J ys W') ∨ (∃ pre, pre <+: xs ∧ Jx pre W')) := by
  refine callsIn_of_wp Tryd.func90 rfl trivial ?_ rfl
  simp only [Tryd.ntmps90, List.size_toArray, List.length_cons, List.length_nil, Nat.reduceAdd, Nat.reduceSub, Array.replicate_succ, Array.replicate_zero, List.push_toArray, List.append_toArray, List.nil_append, List.cons_append]
  gi_wp2
  gi_loopw [3] (fun p wr => ∃ (pre rest : List (Fin 24)) (V : Nat), p = .int .u32 V ∧ V < 16777216 ∧ Hid (xs = pre ++ rest) ∧ Hid (rest.map (fun x => x.val) = pl V) ∧ Hid (TabB wr) ∧ J pre wr)
    (fun p wr => (intOf p).toNat)
  case atStart =>
    exact ⟨[], xs, R, rfl, hR, Lib.hid rfl, Lib.hid hxs, Lib.hid hT, h0⟩
  case round =>
    obtain ⟨pre, rest, V, rfl, hV, hx, hl, hTr, hJs⟩ := hrel
    by_cases hz : V = 0
    · subst hz
      have hr : rest = [] := by have := hl.out; rw [pl_zero] at this; simpa using this
      subst hr
      gi_wp2
      go_end0
      exact ⟨⟨_, rfl⟩, .inl ⟨pre, by have := hx.out; simpa using this.symm, hJs⟩⟩
    · obtain ⟨hp, hc, hlt, hlt2⟩ := pl_step V hz hV
      obtain ⟨x, rest', rfl, hxv, hrest⟩ : ∃ x rest', rest = x :: rest' ∧ x.val = Lib.ctz 32 V ∧ rest'.map (fun x => x.val) = pl (V &&& (V - 1)) := by
        have := hl.out
        rw [hp] at this
        match rest, this with
        | x :: rest', h => simp only [List.map_cons, List.cons.injEq] at h; exact ⟨x, rest', rfl, h.1, h.2⟩
      obtain ⟨fn, tmps, assign, body, hy, hRn⟩ := hY pre x wr hJs (by rw [hx.out]; simp)
      have hz1 : ((V : Int) != 0) = true := by simp; omega
      have hz2 : ((V : Int) == 0) = false := by simp; omega
      rw [hxv] at hy
      have HX := Lib.hid hx
      have HR := Lib.hid hrest
      have HP := Lib.hid hz
      clear hp hxv hrest hl hz
      gi_wp2_with (refine ⟨trivial, ?_⟩; gi_at_call 91; refine (callsIn_wide.2 (tz32_calls V wr HP.out hV hTr.out)).mono ?_; rintro e w' ⟨rfl, rfl⟩)
      refine hRn.mono ?_
      rintro e W3 (⟨rfl, hJ3, hk3⟩ | ⟨rfl, hJx3⟩)
      · have hvv : bits .and .u32 (V : Int) ((V : Int) - 1) = ((V &&& (V - 1) : Nat) : Int) := by
          rw [and_u32 _ _ (by omega) (by omega) (by have := HP.out; omega) (by omega)]
          unfold andI
          rw [show ((V : Int) - 1).toNat = V - 1 by omega, Int.toNat_natCast]
        have hV1 : 1 ≤ V := by have := HP.out; omega
        have HT3 := Lib.hid (hTr.out.below hk3 hn₀)
        gi_wp2
        go_roundw
        case rel => exact ⟨pre ++ [x], rest', V &&& (V - 1), rfl, hlt2, Lib.hid (by rw [hx.out]; simp), HR, HT3, hJ3⟩
        case measure => simp [intOf]; omega
      · gi_wp2
        refine bodyPost_ret (results_none rfl _ _ _) rfl ?_
        exact ⟨⟨_, rfl⟩, .inr ⟨pre ++ [x], ⟨rest', by rw [hx.out]; simp⟩, hJx3⟩⟩
theorem places_stops (n : Nat) (hn : 1 ≤ n) (Bn n₀ : Nat) (R : Nat) (hR : R < 16777216) (xs : List (Fin 24)) (hxs : xs.map (fun x => x.val) = pl R) (w : World) (hBn : Bn < w.heap.size) (hn₁ : n₀ ≤ w.heap.size) (hn₀ : 1 < n₀)
    (hc : w.cell? ⟨Bn, 0, none⟩ = some (.int .u32 R)) (hT : TabB w) :
    SeqStopsK Fence.wide n Tryd.prog 90 #[.pointer (some ⟨Bn, 0, none⟩)] (fun x : Fin 24 => #[Value.int .i64 (x.val : Nat)]) (Below n₀) (fun ys => ys = xs) (fun pre => pre <+: xs) xs.length w := fun l J Jx W hW _ _ hY h0 =>
  places1_in n hn l Bn n₀ R hR xs hxs J Jx hY W ((hW.cell (p := ⟨Bn, 0, none⟩) hBn).trans hc) (hT.below hW (by have := hT.lt; omega)) hn₀ h0
end Go.Proofs.YtmeejnkpaiinaabDoor
