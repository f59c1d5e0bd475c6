/- Tables of two sextets, of the program. -/
import Derived.Test.YtagniijhbiglaaaDoorC51
import Derived.Laws.Rows
import Derived.Laws.Tables
namespace Go.Proofs.YtagniijhbiglaaaDoor
open Go.RowKit Go.Shelf
set_option linter.unusedVariables false
attribute [local irreducible] octS cN octF syn

def V36 (L : List Int) : Array Value := (L.map (Value.int .i64)).toArray
def z36 : List Int := List.replicate 36 0
def padT (a b : List Int) (m : Nat) : List Int := tabTo a b m ++ List.replicate (36 - m) 0
theorem padT_len (a b : List Int) (m : Nat) (h : m ≤ 36) : (padT a b m).length = 36 := by simp [padT, tabTo_len]; omega
theorem padT_zero (a b : List Int) : padT a b 0 = z36 := rfl
theorem padT_all (a b : List Int) : padT a b 36 = tab36 a b := by simp [padT, tabTo, tab36]
theorem padT_set (a b : List Int) (i k : Nat) (hi : i < 6) (hk : k < 6) : (padT a b (6 * i + k)).set (6 * i + k) (tabE a b i k) = padT a b (6 * i + k + 1) := by
  unfold padT
  rw [tabTo_snoc a b i k hk, show 36 - (6 * i + k) = (36 - (6 * i + k + 1)) + 1 by omega, List.replicate_succ, List.set_append_right _ _ (by rw [tabTo_len]; exact Nat.le_refl _), tabTo_len, Nat.sub_self, List.set_cons_zero]
  simp
theorem V36_at {w : World} {g j : Nat} {t : TypeId} (xs : List Int) (hj : j < xs.length) (hg : w.heap[g]? = some (.cells (V36 xs) t (0, 0))) : w.cell? ⟨g, j, none⟩ = some (.int .i64 (xs.getD j 0)) := by
  rw [Lib.cell_of_heap hg]
  simp [V36, hj]
theorem V36_set {w : World} {g j : Nat} {t : TypeId} (xs : List Int) (x : Int) (hg : w.heap[g]? = some (.cells (V36 xs) t (0, 0))) : (w.setCell ⟨g, j, none⟩ (.int .i64 x)).heap[g]? = some (.cells (V36 (xs.set j x)) t (0, 0)) := by
  have := heap_setCell_same w g j (V36 xs) t (.int .i64 x) hg
  unfold V36 at this ⊢
  rw [List.setIfInBounds_toArray, ← List.map_set] at this
  exact this
theorem four_heap (w : World) (o0 o1 o2 o3 : Obj) : ((((w.alloc o0).alloc o1).alloc o2).alloc o3).heap[w.heap.size]? = some o0 ∧ ((((w.alloc o0).alloc o1).alloc o2).alloc o3).heap[w.heap.size + 1]? = some o1 ∧ ((((w.alloc o0).alloc o1).alloc o2).alloc o3).heap[w.heap.size + 2]? = some o2 ∧ ((((w.alloc o0).alloc o1).alloc o2).alloc o3).heap[w.heap.size + 3]? = some o3 ∧ Below w.heap.size w ((((w.alloc o0).alloc o1).alloc o2).alloc o3) := by
  refine ⟨?_, ?_, ?_, ?_, ((((Below.refl _ w).alloc (Nat.le_refl _) _).alloc (by simp) _).alloc (by simp; omega) _).alloc (by simp; omega) _⟩
  · exact (Below.heap_alloc _ _ _ (by simp; try omega)).trans ((Below.heap_alloc _ _ _ (by simp; try omega)).trans ((Below.heap_alloc _ _ _ (by simp; try omega)).trans (World.alloc_heap_new w _)))
  · have := World.alloc_heap_new (w.alloc o0) o1
    rw [alloc_sz] at this
    exact (Below.heap_alloc _ _ _ (by simp; try omega)).trans ((Below.heap_alloc _ _ _ (by simp; try omega)).trans this)
  · have := World.alloc_heap_new ((w.alloc o0).alloc o1) o2
    rw [alloc_sz, alloc_sz] at this
    exact (Below.heap_alloc _ _ _ (by simp; try omega)).trans this
  · have := World.alloc_heap_new (((w.alloc o0).alloc o1).alloc o2) o3
    rw [alloc_sz, alloc_sz, alloc_sz] at this
    exact this
theorem tbInfo : (Tryd.prog.info? 66).map (·.size) = some 36 := by kernel_rfl
theorem idxX (a b c d e f : Int) (i : Nat) (h : i < 6) (W : World) : (Instr.index 55 (.agg #[.int .u32 a, .int .u32 b, .int .u32 c, .int .u32 d, .int .u32 e, .int .u32 f]) (.int .i64 (i : Nat))).run Tryd.prog W = .ok (.int .u32 (([a, b, c, d, e, f] : List Int).getD i 0)) W := by
  match i, h with
  | 0, _ => exact idxS0 _ _ _ _ _ _ W
  | 1, _ => exact idxS1 _ _ _ _ _ _ W
  | 2, _ => exact idxS2 _ _ _ _ _ _ W
  | 3, _ => exact idxS3 _ _ _ _ _ _ W
  | 4, _ => exact idxS4 _ _ _ _ _ _ W
  | 5, _ => exact idxS5 _ _ _ _ _ _ W
theorem tb_fin {w V X : World} {j : Nat} {cs Z : List Int} {t : Int} {b1 b2 : Obj} (h1 : V.heap[w.heap.size + 1]? = some b1) (h2 : V.heap[w.heap.size + 2]? = some b2) (h3 : V.heap[w.heap.size + 3]? = some (.cells (V36 cs) 66 (0, 0))) (hB : Below w.heap.size w V) (hZ : cs.set j t = Z)
    (hX : X.heap = (V.setCell ⟨w.heap.size + 3, j, none⟩ (.int .i64 t)).heap) (hX2 : X.os = V.os ∧ X.tape = V.tape ∧ X.output = V.output) :
    X.heap[w.heap.size + 1]? = some b1 ∧ X.heap[w.heap.size + 2]? = some b2 ∧ X.heap[w.heap.size + 3]? = some (.cells (V36 Z) 66 (0, 0)) ∧ Below w.heap.size w X := by
  have k1 : ∀ q, q ≠ w.heap.size + 3 → X.heap[q]? = V.heap[q]? := fun q hq => by rw [hX]; exact Below.heap_setCell V _ _ q hq
  have a3 := V36_set (j := j) cs t h3
  rw [hZ, ← hX] at a3
  have b0 : Below w.heap.size V (V.setCell ⟨w.heap.size + 3, j, none⟩ (.int .i64 t)) := (Below.refl _ V).setCell (show w.heap.size ≤ w.heap.size + 3 by omega) _
  exact ⟨(k1 _ (by omega)).trans h1, (k1 _ (by omega)).trans h2, a3, hB.trans ⟨hX2.1, hX2.2.1, hX2.2.2, by rw [hX]; exact b0.size, fun q hq => by rw [hX]; exact b0.block q hq⟩⟩
theorem V36_all (L : List Int) : (V36 L).all (·.oneCell') = true := by
  rw [Array.all_eq_true_iff_forall_mem]
  intro x hx
  simp [V36] at hx
  obtain ⟨a, _, rfl⟩ := hx
  rfl
theorem below_setRow {w V : World} {g : Nat} {T : Array Value} (h : Below w.heap.size w V) (hg : w.heap.size ≤ g) : Below w.heap.size w (V.setRow g T) :=
  h.trans ⟨rfl, rfl, rfl, by simp, fun q hq => setRow_other V g q T (by omega)⟩
set_option maxRecDepth 100000 in
set_option maxHeartbeats 2000000 in
theorem table_calls (L M : List Int) (h6 : L.length = 6) (h62 : M.length = 6) (hw : ∀ j, j < 6 → IsW (L.getD j 0)) (hw2 : ∀ j, j < 6 → IsW (M.getD j 0)) (w : World) :
    Calls Tryd.prog 89 #[.agg (arrW L), .agg (arrW M)] w fun e w' => e = .returned (.agg (V36 (tab36 L M))) ∧ Below w.heap.size w w' := by
  have HW := Lib.hid hw
  have HW2 := Lib.hid hw2
  obtain ⟨a, b, c, d, e, f, hL⟩ := six_of h6
  obtain ⟨a', b', c', d', e', f', hM⟩ := six_of h62
  have HIX := Lib.hid (show ∀ (i : Nat), i < 6 → ∀ W, (Instr.index 55 (.agg #[.int .u32 a, .int .u32 b, .int .u32 c, .int .u32 d, .int .u32 e, .int .u32 f]) (.int .i64 (i : Nat))).run Tryd.prog W = .ok (.int .u32 (L.getD i 0)) W from fun i h W => by rw [hL]; exact idxX a b c d e f i h W)
  have HIX2 := Lib.hid (show ∀ (i : Nat), i < 6 → ∀ W, (Instr.index 55 (.agg #[.int .u32 a', .int .u32 b', .int .u32 c', .int .u32 d', .int .u32 e', .int .u32 f']) (.int .i64 (i : Nat))).run Tryd.prog W = .ok (.int .u32 (M.getD i 0)) W from fun i h W => by rw [hM]; exact idxX a' b' c' d' e' f' i h W)
  have hV : arrW L = #[.int .u32 a, .int .u32 b, .int .u32 c, .int .u32 d, .int .u32 e, .int .u32 f] := by rw [hL]; rfl
  have hV2 : arrW M = #[.int .u32 a', .int .u32 b', .int .u32 c', .int .u32 d', .int .u32 e', .int .u32 f'] := by rw [hM]; rfl
  rw [hV, hV2]
  clear hw hw2 h6 h62 hL hM hV hV2
  go_enter Tryd.func89, Tryd.ntmps89
  go_wp2_with fail
  go_loopw [11] (fun i wr => ∃ p : Nat, p ≤ 6 ∧ i = .int .i64 p ∧ Hid (Blk wr (w.heap.size + 1) 55 #[.int .u32 a', .int .u32 b', .int .u32 c', .int .u32 d', .int .u32 e', .int .u32 f']) ∧ Hid (wr.heap[w.heap.size + 2]? = some (.cells (V36 z36) 66 (0, 0))) ∧ Hid (wr.heap[w.heap.size + 3]? = some (.cells (V36 (padT L M (6 * p))) 66 (0, 0))) ∧ Hid (Below w.heap.size w wr)) (fun i _ => 6 - (intOf i).toNat)
  case atStart => exact ⟨0, by omega, rfl, Lib.hid (four_heap w _ _ _ _).2.1, Lib.hid (four_heap w _ _ _ _).2.2.1, Lib.hid (four_heap w _ _ _ _).2.2.2.1, Lib.hid (four_heap w _ _ _ _).2.2.2.2⟩
  case round =>
    obtain ⟨p, hp, rfl, h1, h2, h3, hbl⟩ := hrel
    by_cases hlt : p < 6
    · have hp1 : (0 : Int) ≤ (p : Int) := by omega
      have hp2 : (p : Int) < 6 := by omega
      have hix := HIX.out p hlt
      have hx := HW.out p hlt
      obtain ⟨x, hxe⟩ : ∃ x, L.getD p 0 = x := ⟨_, rfl⟩
      have HXE := Lib.hid hxe
      rw [hxe] at hx
      simp only [hxe] at hix
      clear hxe
      obtain ⟨q0, q1, q2, q3, q4, q5, qf⟩ := h1.out.six
      go_wp2_with fail
      go_loopw [16] (fun i wr => ∃ k : Nat, k ≤ 6 ∧ i = .int .i64 k ∧ Hid (Blk wr (w.heap.size + 1) 55 #[.int .u32 a', .int .u32 b', .int .u32 c', .int .u32 d', .int .u32 e', .int .u32 f']) ∧ Hid (wr.heap[w.heap.size + 2]? = some (.cells (V36 z36) 66 (0, 0))) ∧ Hid (wr.heap[w.heap.size + 3]? = some (.cells (V36 (padT L M (6 * p + k))) 66 (0, 0))) ∧ Hid (Below w.heap.size w wr)) (fun i _ => 6 - (intOf i).toNat)
      case atStart => exact ⟨0, by omega, rfl, h1, h2, h3, hbl⟩
      case round =>
        obtain ⟨k, hk, rfl, h1, h2, h3, hbl⟩ := hrel
        by_cases hlt2 : k < 6
        · have hk1 : (0 : Int) ≤ (k : Int) := by omega
          have hk2 : (k : Int) < 6 := by omega
          have hix2 := HIX2.out k hlt2
          have hy := HW2.out k hlt2
          have HT := Lib.hid (show wt (andI (L.getD p 0) (M.getD k 0)) = tabE L M p k from rfl)
          have HS := Lib.hid (padT_set L M p k hlt hlt2)
          rw [HXE.out] at HT
          have hwx : IsW (andI x (M.getD k 0)) := ⟨andI_nonneg _ _, andI_le _ _ hy.2⟩
          obtain ⟨y, hye⟩ : ∃ y, M.getD k 0 = y := ⟨_, rfl⟩
          rw [hye] at HT hy hwx
          simp only [hye] at hix2
          clear hye
          generalize tabE L M p k = t at *
          generalize hm : andI x y = m at *
          have HM := Lib.hid hm
          clear hm
          have hc3 := V36_at (j := 6 * p + k) _ (by rw [padT_len L M _ (by omega)]; omega) h3.out
          have hf3 : wr.frozen? ⟨w.heap.size + 3, 6 * p + k, none⟩ = false := Lib.frozen_of_heap h3.out _
          generalize (padT L M (6 * p + k)).getD (6 * p + k) 0 = z at *
          have hix6 : p * 6 + k = 6 * p + k := by omega
          have HF := Lib.hid (fun X => tb_fin (X := X) h1.out h2.out h3.out hbl.out HS.out)
          go_wp2_with fail
          go_region_with (first
            | (go_at_call 65; refine (word_meet _ _ _ hx.1 hx.2 hy.1 hy.2).mono ?_; rintro e w' ⟨he, rfl⟩; rw [HM.out] at he; subst he)
            | (go_at_call 53; refine (word_weight m _ hwx.1 hwx.2).mono ?_; rintro e w' ⟨he, kk, rfl⟩; rw [HT.out] at he; subst he))
          all_goals
            go_wp2_with fail
            go_roundw
            case rel =>
              refine ⟨k + 1, by omega, by go_num, Lib.hid ?_, Lib.hid ?_, Lib.hid ?_, Lib.hid ?_⟩
              · refine (HF.out _ ?_ ?_).1
                · rfl
                · exact ⟨rfl, rfl, rfl⟩
              · refine (HF.out _ ?_ ?_).2.1
                · rfl
                · exact ⟨rfl, rfl, rfl⟩
              · refine (HF.out _ ?_ ?_).2.2.1
                · rfl
                · exact ⟨rfl, rfl, rfl⟩
              · refine (HF.out _ ?_ ?_).2.2.2
                · rfl
                · exact ⟨rfl, rfl, rfl⟩
            case measure => simp [intOf]; omega
        · obtain rfl : k = 6 := by omega
          go_wp2_with fail
          go_roundw
          case rel => exact ⟨p + 1, by omega, by go_num, h1, h2, Lib.hid (by rw [show 6 * (p + 1) = 6 * p + 6 by omega]; exact h3.out), hbl⟩
          case measure => simp [intOf]; omega
    · obtain rfl : p = 6 := by omega
      have hT := h3.out
      rw [show 6 * 6 = 36 from rfl, padT_all] at hT
      have hs : (V36 (tab36 L M)).size = 36 := by simp [V36, tab36]
      have hall := V36_all (tab36 L M)
      obtain ⟨T, hTe⟩ : ∃ T, V36 (tab36 L M) = T := ⟨_, rfl⟩
      rw [hTe] at hT hs hall
      have HTE := Lib.hid hTe
      clear hTe
      have hi : (Tryd.prog.info? 66).map (·.size) = some T.size := by rw [hs]; exact tbInfo
      have HT := Lib.hid hT
      have HI := Lib.hid hi
      have HALL := Lib.hid hall
      have HSZ := Lib.hid hs
      clear hT hi hall hs
      go_wp2_with (first
        | (refine wpList_load_row rfl 66 _ rfl (w.heap.size + 3) rfl 66 T (0, 0) _ HT.out Tryd.underlying66 rfl HI.out ?_)
        | (refine wpList_store_row rfl 66 _ _ rfl (w.heap.size + 2) T rfl rfl 66 (V36 z36) h2.out HI.out (by rw [HSZ.out]; rfl) HALL.out ?_))
      exact bodyPost_ret (results_c rfl rfl (setRow_heap _ _ _ _ _ _ h2.out : Blk _ _ _ _) Tryd.underlying66 rfl HI.out) rfl ⟨by rw [HTE.out], below_setRow hbl.out (by omega)⟩
end Go.Proofs.YtagniijhbiglaaaDoor
