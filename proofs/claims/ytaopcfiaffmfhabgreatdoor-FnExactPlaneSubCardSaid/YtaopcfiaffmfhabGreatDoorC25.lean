/- Scores of words, of the program: columns, and a loop over places within a loop over columns. -/
import Derived.Shelf.RegionOpen
import Derived.Test.YtaopcfiaffmfhabGreatDoorC10
import Derived.Test.YtaopcfiaffmfhabGreatDoorQ4
import Derived.Test.YtaopcfiaffmfhabGreatDoorM16
import Derived.Test.YtaopcfiaffmfhabGreatDoorP2
namespace Go.Proofs.YtaopcfiaffmfhabGreatDoor
open Go.RowKit Go.Shelf
attribute [local go_sem] Oper.semAt_some
set_option linter.unusedVariables false

theorem and15_u32 (x : Int) (h0 : 0 ≤ x) (h1 : x < 4294967296) : bits .and .u32 x 15 = x % 16 :=
  bits_mask .u32 32 (by decide) (fun n h0 h1 => by rw [IntKind.wrap_u32]; omega) 4 (by decide) x h0 (by omega)
/-- The iterator over places, its elements read through f. -/
theorem placesA_stops {α : Type} (f : α → Nat) (n : Nat) (hn : 1 ≤ n) (Bn n₀ : Nat) (R : Nat) (hR : R < 16777216) (xs : List α) (hxs : xs.map f = pl R) (w : World) (hBn : Bn < w.heap.size) (hn₁ : n₀ ≤ w.heap.size) (hn₀ : 1 < n₀)
    (hc : w.cell? ⟨Bn, 0, none⟩ = some (.int .u32 R)) (hT : TabB w) :
    SeqStopsK Fence.wide n Tryz.prog 72 #[.pointer (some ⟨Bn, 0, none⟩)] (fun x : α => #[Value.int .i64 (f x : Nat)]) (Below n₀) (fun ys => ys = xs) (fun pre => pre <+: xs) xs.length w := by
  intro l J Jx W0 hW _ _ hY h0
  have hBn' : W0.cell? ⟨Bn, 0, none⟩ = some (.int .u32 R) := (hW.cell (p := ⟨Bn, 0, none⟩) hBn).trans hc
  have hT' : TabB W0 := hT.below hW hT.lt
  clear hc hT hW
  refine callsIn_of_wp Tryz.func72 rfl trivial ?_ rfl
  simp only [Tryz.ntmps72, List.size_toArray, List.length_cons, List.length_nil, Nat.reduceAdd, Nat.reduceSub, Array.replicate_succ, Array.replicate_zero, List.push_toArray, List.append_toArray, List.nil_append, List.cons_append]
  gi_wp2
  gi_loopw [3] (fun p wr => ∃ (pre rest : List α) (V : Nat), p = .int .u32 V ∧ V < 16777216 ∧ Hid (xs = pre ++ rest) ∧ Hid (rest.map f = pl V) ∧ Hid (TabB wr) ∧ J pre wr)
    (fun p wr => (intOf p).toNat)
  case atStart =>
    exact ⟨[], xs, R, rfl, hR, Lib.hid rfl, Lib.hid hxs, Lib.hid hT', h0⟩
  case round =>
    obtain ⟨pre, rest, V, rfl, hV, hx, hl, hTr, hJs⟩ := hrel
    by_cases hz : V = 0
    · subst hz
      have hr : rest = [] := by have := hl.out; rw [pl_zero] at this; simpa using this
      subst hr
      gi_wp2
      go_end0
      exact ⟨⟨_, rfl⟩, .inl ⟨pre, by have := hx.out; simpa using this.symm, hJs⟩⟩
    · obtain ⟨hp, hc, hlt, hlt2⟩ := pl_step V hz hV
      obtain ⟨x, rest', rfl, hxv, hrest⟩ : ∃ x rest', rest = x :: rest' ∧ f x = Lib.ctz 32 V ∧ rest'.map f = pl (V &&& (V - 1)) := by
        have := hl.out
        rw [hp] at this
        match rest, this with
        | x :: rest', h => simp only [List.map_cons, List.cons.injEq] at h; exact ⟨x, rest', rfl, h.1, h.2⟩
      obtain ⟨fn, tmps, assign, body, hy, hRn⟩ := hY pre x wr hJs (by rw [hx.out]; simp)
      have hz1 : ((V : Int) != 0) = true := by simp; omega
      have hz2 : ((V : Int) == 0) = false := by simp; omega
      rw [hxv] at hy
      have HX := Lib.hid hx
      have HR := Lib.hid hrest
      have HP := Lib.hid hz
      clear hp hxv hrest hl hz
      gi_wp2_with (refine ⟨trivial, ?_⟩; gi_at_call 73; refine (callsIn_wide.2 (tz32_calls V wr HP.out hV hTr.out)).mono ?_; rintro e w' ⟨rfl, rfl⟩)
      refine hRn.mono ?_
      rintro e W3 (⟨rfl, hJ3, hk3⟩ | ⟨rfl, hJx3⟩)
      · have hvv : bits .and .u32 (V : Int) ((V : Int) - 1) = ((V &&& (V - 1) : Nat) : Int) := by
          rw [and_u32 _ _ (by omega) (by omega) (by have := HP.out; omega) (by omega)]
          unfold andI
          rw [show ((V : Int) - 1).toNat = V - 1 by omega, Int.toNat_natCast]
        have hV1 : 1 ≤ V := by have := HP.out; omega
        have HT3 := Lib.hid (hTr.out.below hk3 hn₀)
        gi_wp2
        go_roundw
        case rel => exact ⟨pre ++ [x], rest', V &&& (V - 1), rfl, hlt2, Lib.hid (by rw [hx.out]; simp), HR, HT3, hJ3⟩
        case measure => simp [intOf]; omega
      · gi_wp2
        refine bodyPost_ret (results_none rfl _ _ _) rfl ?_
        exact ⟨⟨_, rfl⟩, .inr ⟨pre ++ [x], ⟨rest', by rw [hx.out]; simp⟩, hJx3⟩⟩
end Go.Proofs.YtaopcfiaffmfhabGreatDoor
