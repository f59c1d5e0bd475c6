/- Kinds of tables, of the program. -/
import Derived.Test.YtagniijhbiglaaaDoorC61
namespace Go.Proofs.YtagniijhbiglaaaDoor
open Go.RowKit Go.Shelf
set_option linter.unusedVariables false
attribute [local irreducible] octS cN octF syn

theorem gTo_rng (T : List Int) (h : ∀ j, 0 ≤ T.getD j 0 ∧ T.getD j 0 ≤ 24) (i : Nat) : 0 ≤ gTo T i ∧ gTo T i ≤ 24 := by
  rw [gTo_mx]
  exact ⟨mxTo_nonneg T _, mxTo_rng T (fun j => (h j).2) _⟩
theorem rTo_le (T : List Int) : ∀ i, rTo T i ≤ i
  | 0 => Nat.le_refl _
  | i + 1 => by rw [rTo]; have := rTo_le T i; split <;> (try split) <;> omega
theorem rmT_rng (T : List Int) (h : ∀ j, 0 ≤ T.getD j 0 ∧ T.getD j 0 ≤ 24) (i : Nat) : 0 ≤ rmT T i ∧ rmT T i ≤ 24 := by
  unfold rmT rowT
  rw [maxOf_six]
  have h0 := h (6 * i)
  have h1 := h (6 * i + 1)
  have h2 := h (6 * i + 2)
  have h3 := h (6 * i + 3)
  have h4 := h (6 * i + 4)
  have h5 := h (6 * i + 5)
  omega
set_option maxRecDepth 100000 in
set_option maxHeartbeats 2000000 in
theorem kind_calls (T : List Int) (h : T.length = 36) (hr : ∀ j, 0 ≤ T.getD j 0 ∧ T.getD j 0 ≤ 24) (w : World) :
    Calls Tryd.prog 61 #[.agg (V36 T)] w fun e w' => e = .returned (.int .i64 (kindV T)) ∧ Below w.heap.size w w' := by
  have HROW := Lib.hid (fun k hk W => row_all T h k hk W)
  have hs : (V36 T).size = 36 := by simp [V36, h]
  have HI := Lib.hid (show (Tryd.prog.info? 66).map (·.size) = some (V36 T).size by rw [hs]; exact tbInfo)
  have HG := Lib.hid (gTo_rng T hr)
  have HRM := Lib.hid (rmT_rng T hr)
  have HRL := Lib.hid (rTo_le T)
  have HK := Lib.hid (kindV_is T)
  generalize kindV T = KV at *
  generalize hV : V36 T = V at *
  clear h hs hV hr
  go_enter Tryd.func61, Tryd.ntmps61
  go_wp2_with (first
    | (refine wpList_load_row rfl 66 _ rfl w.heap.size rfl 66 V (0, 0) _ (Blk.new w _ _) Tryd.underlying66 rfl HI.out ?_))
  go_loopw [3, 4, 9] (fun gr r i wr => ∃ p : Nat, p ≤ 6 ∧ i = .int .i64 p ∧ gr = .int .i64 (gTo T p) ∧ r = .int .i64 ((rTo T p : Nat) : Int) ∧ Hid (Below w.heap.size w wr)) (fun _ _ i _ => 6 - (intOf i).toNat)
  case atStart => exact ⟨0, by omega, rfl, rfl, rfl, Lib.hid ((Below.refl _ w).alloc (Nat.le_refl _) _)⟩
  case round =>
    obtain ⟨p, hp, rfl, rfl, rfl, hbl⟩ := hrel
    have hg := HG.out p
    have hrl := HRL.out p
    by_cases hlt : p < 6
    · have hp1 : (0 : Int) ≤ (p : Int) := by omega
      have hp2 : (p : Int) < 6 := by omega
      have hrow := HROW.out p hlt
      have HM := Lib.hid (show Lib.maxOf (rowT T p) = rmT T p from rfl)
      have hm := HRM.out p
      have HG1 := Lib.hid (show gTo T (p + 1) = if gTo T p < rmT T p then rmT T p else gTo T p from rfl)
      have HR1 := Lib.hid (show rTo T (p + 1) = if gTo T p < rmT T p then 1 else if rmT T p = gTo T p then rTo T p + 1 else rTo T p from rfl)
      unfold rowT at HM
      obtain ⟨r0, e0⟩ : ∃ r, T.getD (6 * p) 0 = r := ⟨_, rfl⟩
      obtain ⟨r1, e1⟩ : ∃ r, T.getD (6 * p + 1) 0 = r := ⟨_, rfl⟩
      obtain ⟨r2, e2⟩ : ∃ r, T.getD (6 * p + 2) 0 = r := ⟨_, rfl⟩
      obtain ⟨r3, e3⟩ : ∃ r, T.getD (6 * p + 3) 0 = r := ⟨_, rfl⟩
      obtain ⟨r4, e4⟩ : ∃ r, T.getD (6 * p + 4) 0 = r := ⟨_, rfl⟩
      obtain ⟨r5, e5⟩ : ∃ r, T.getD (6 * p + 5) 0 = r := ⟨_, rfl⟩
      simp only [e0, e1, e2, e3, e4, e5] at hrow HM
      clear e0 e1 e2 e3 e4 e5
      have hcon := Tryd.slices_Max_int wr.heap.size 0 6 6 [r0, r1, r2, r3, r4, r5] (wr.alloc (.cells #[.int .i64 r0, .int .i64 r1, .int .i64 r2, .int .i64 r3, .int .i64 r4, .int .i64 r5] 64)) (by decide) (by simp) (by decide) (fun j hj => by
        have hj6 : j = 0 ∨ j = 1 ∨ j = 2 ∨ j = 3 ∨ j = 4 ∨ j = 5 := by simp at hj; omega
        rw [Lib.cell_of_heap (World.alloc_heap_new wr _)]
        rcases hj6 with rfl | rfl | rfl | rfl | rfl | rfl <;> rfl)
      rw [show ([r0, r1, r2, r3, r4, r5] : List Int).take 6 = [r0, r1, r2, r3, r4, r5] from rfl, HM.out] at hcon
      have HC := Lib.hid hcon
      have HB1 := Lib.hid (hbl.out.alloc hbl.out.size (.cells #[.int .i64 r0, .int .i64 r1, .int .i64 r2, .int .i64 r3, .int .i64 r4, .int .i64 r5] 64))
      clear hcon
      generalize gTo T p = g at *
      generalize rTo T p = rr at *
      generalize rmT T p = m at *
      obtain ⟨hg0, hg1⟩ := hg
      obtain ⟨hm0, hm1⟩ := hm
      have hrr0 : (0 : Int) ≤ (rr : Int) := by omega
      have hrr1 : (rr : Int) ≤ 6 := by omega
      by_cases h1 : g < m
      · rw [if_pos h1] at HG1 HR1
        go_wp2_with fail
        refine HC.out.mono ?_
        rintro e w2 ⟨rfl, rfl⟩
        go_wp2_with fail
        go_roundw
        case rel => exact ⟨p + 1, by omega, by go_num, by rw [HG1.out], by rw [HR1.out]; rfl, HB1⟩
        case measure => simp [intOf]; omega
      · rw [if_neg h1] at HG1 HR1
        by_cases h2 : m = g
        · rw [if_pos h2] at HR1
          subst h2
          go_wp2_with fail
          refine HC.out.mono ?_
          rintro e w2 ⟨rfl, rfl⟩
          go_wp2_with fail
          go_roundw
          case rel => exact ⟨p + 1, by omega, by go_num, by rw [HG1.out], by rw [HR1.out]; go_num, HB1⟩
          case measure => simp [intOf]; omega
        · rw [if_neg h2] at HR1
          have h21 : (m == g) = false := by simpa using h2
          clear h2
          go_wp2_with fail
          refine HC.out.mono ?_
          rintro e w2 ⟨rfl, rfl⟩
          go_wp2_with fail
          go_roundw
          case rel => exact ⟨p + 1, by omega, by go_num, by rw [HG1.out], by rw [HR1.out], HB1⟩
          case measure => simp [intOf]; omega
    · obtain rfl : p = 6 := by omega
      generalize gTo T 6 = g at *
      generalize rTo T 6 = rr at *
      have hrr0 : (0 : Int) ≤ (rr : Int) := by omega
      have hrr1 : (rr : Int) ≤ 6 := by omega
      go_wp2_with fail
      go_ret
      exact ⟨ret_i (by rw [HK.out]; omega), hbl.out⟩
set_option maxRecDepth 100000 in
set_option maxHeartbeats 1000000 in
theorem iSextetKind_calls (A A2 : Option Addr) (c c2 : Nat) (xs ys : List Int) (w : World) (ha : Rds w w.heap.size .i64 A xs) (hx : xs.length ≤ maxLen) (hb : Rds w w.heap.size .i64 A2 ys) (hy : ys.length ≤ maxLen) (hT : Tab2 w) :
    Calls Tryd.prog 24 #[.slice A xs.length c, .slice A2 ys.length c2] w fun e w' => e = .returned (.tuple #[.int .i64 (kindA xs ys).1, .bool (kindA xs ys).2]) ∧ Below w.heap.size w w' := by
  have HF := Lib.hid (tableFrom_calls A A2 c c2 xs ys w ha hx hb hy hT)
  have hl := tfL_len xs ys
  have hsz : (V36 (tfL xs ys)).size = 36 := by simp [V36, hl]
  have HI := Lib.hid (show (Tryd.prog.info? 66).map (·.size) = some (V36 (tfL xs ys)).size by rw [hsz]; exact tbInfo)
  have HALL := Lib.hid (V36_all (tfL xs ys))
  have HSZ := Lib.hid hsz
  rcases h1 : (sxB xs && sxB ys) with _ | _
  · rw [show kindA xs ys = (0, false) by unfold kindA; rw [h1]; rfl]
    rw [h1] at HF
    generalize V36 (tfL xs ys) = T at *
    clear ha hx hb hy h1 hl hsz
    generalize xs.length = n at *
    generalize ys.length = n2 at *
    go_enter Tryd.func24, Tryd.ntmps24
    go_wp2_with fail
    refine HF.out.mono ?_
    rintro e w1 ⟨rfl, b1⟩
    have HN := Lib.hid (Blk.new w1 66 (V36 z36))
    have HB := Lib.hid (b1.alloc b1.size (.cells (V36 z36) 66))
    have hw1 := b1.size
    clear b1
    go_wp2_with (refine wpList_store_row rfl 66 _ _ rfl w1.heap.size T rfl rfl 66 (V36 z36) HN.out HI.out (by rw [HSZ.out]; rfl) HALL.out ?_)
    go_ret2
    exact ⟨rfl, below_setRow HB.out hw1⟩
  · rw [show kindA xs ys = (kindV (tab36 xs ys), true) by unfold kindA; rw [h1]; rfl]
    have htf : tfL xs ys = tab36 xs ys := by unfold tfL; rw [h1]; rfl
    have HL := Lib.hid (kind_calls (tab36 xs ys) (by simp [tab36]) (tab36_rng xs ys))
    rw [h1] at HF
    rw [htf] at HF HI HALL HSZ
    generalize V36 (tab36 xs ys) = T at *
    generalize kindV (tab36 xs ys) = KV at *
    clear ha hx hb hy h1 hl hsz htf
    generalize xs.length = n at *
    generalize ys.length = n2 at *
    go_enter Tryd.func24, Tryd.ntmps24
    go_wp2_with fail
    refine HF.out.mono ?_
    rintro e w1 ⟨rfl, b1⟩
    have HN := Lib.hid (Blk.new w1 66 (V36 z36))
    have HB := Lib.hid (b1.alloc b1.size (.cells (V36 z36) 66))
    have hw1 := b1.size
    clear b1
    have HN2 := Lib.hid (setRow_heap _ _ _ T _ _ HN.out)
    have HB2 := Lib.hid (below_setRow (T := T) HB.out hw1)
    go_wp2_with (first
      | (refine wpList_store_row rfl 66 _ _ rfl w1.heap.size T rfl rfl 66 (V36 z36) HN.out HI.out (by rw [HSZ.out]; rfl) HALL.out ?_)
      | (refine wpList_load_row rfl 66 _ rfl w1.heap.size rfl 66 T (0, 0) _ HN2.out Tryd.underlying66 rfl HI.out ?_))
    refine (HL.out _).mono ?_
    rintro e w2 ⟨rfl, b2⟩
    go_wp2_with fail
    go_ret2
    exact ⟨rfl, HB2.out.trans (b2.mono HB2.out.size)⟩
end Go.Proofs.YtagniijhbiglaaaDoor
