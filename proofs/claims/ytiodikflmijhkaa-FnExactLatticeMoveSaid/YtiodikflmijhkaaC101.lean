/- Permutations of the program: read from a list, listed, one after the other, turned. -/
import Derived.Test.YtiodikflmijhkaaC100
import Derived.Test.YtiodikflmijhkaaC159
import Derived.Laws.Rows
import Derived.Laws.Tables
import Derived.Laws.CopyOwn
namespace Go.Proofs.Ytiodikflmijhkaa
open Go.RowKit
set_option linter.unusedVariables false
attribute [local irreducible] cN syn

theorem pmInfo : (Try.prog.info? 33).map (·.size) = some 24 := by kernel_rfl
theorem pmInfoL (L : List Int) (h : L.length = 24) : (Try.prog.info? 33).map (·.size) = some (VL L).size := by rw [VL_size, h]; exact pmInfo
theorem idx24 (L : List Int) (h : L.length = 24) (k : Nat) (hk : k < 24) (W : World) : (Instr.index 33 (.agg (VL L)) (.int .i64 (k : Int))).run Try.prog W = .ok (.int .i64 (L.getD k 0)) W := by
  obtain ⟨x0, x1, x2, x3, x4, x5, x6, x7, x8, x9, x10, x11, x12, x13, x14, x15, x16, x17, x18, x19, x20, x21, x22, x23, rfl⟩ := list24 L h
  match k, hk with
  | 0, _ => exact (show _ = _ by kernel_rfl)
  | 1, _ => exact (show _ = _ by kernel_rfl)
  | 2, _ => exact (show _ = _ by kernel_rfl)
  | 3, _ => exact (show _ = _ by kernel_rfl)
  | 4, _ => exact (show _ = _ by kernel_rfl)
  | 5, _ => exact (show _ = _ by kernel_rfl)
  | 6, _ => exact (show _ = _ by kernel_rfl)
  | 7, _ => exact (show _ = _ by kernel_rfl)
  | 8, _ => exact (show _ = _ by kernel_rfl)
  | 9, _ => exact (show _ = _ by kernel_rfl)
  | 10, _ => exact (show _ = _ by kernel_rfl)
  | 11, _ => exact (show _ = _ by kernel_rfl)
  | 12, _ => exact (show _ = _ by kernel_rfl)
  | 13, _ => exact (show _ = _ by kernel_rfl)
  | 14, _ => exact (show _ = _ by kernel_rfl)
  | 15, _ => exact (show _ = _ by kernel_rfl)
  | 16, _ => exact (show _ = _ by kernel_rfl)
  | 17, _ => exact (show _ = _ by kernel_rfl)
  | 18, _ => exact (show _ = _ by kernel_rfl)
  | 19, _ => exact (show _ = _ by kernel_rfl)
  | 20, _ => exact (show _ = _ by kernel_rfl)
  | 21, _ => exact (show _ = _ by kernel_rfl)
  | 22, _ => exact (show _ = _ by kernel_rfl)
  | 23, _ => exact (show _ = _ by kernel_rfl)
  | n + 24, h => exact absurd h (by omega)
theorem pFrom_yes (A : Option Addr) (c : Nat) (xs : List Int) (lo hi t : Int) (w : World) (ha : Rds w w.heap.size .i64 A xs) (hx : xs.length ≤ maxLen) (h1 : lo ≤ xs.length) (h2 : xs.length ≤ hi) (ht : wof xs = some t) :
    Calls Try.prog 19 #[.slice A xs.length c, .int .i64 lo, .int .i64 hi] w fun e w' => e = .returned (.tuple #[.int .u32 t, .bool true]) ∧ w = w' := by
  obtain ⟨⟨t0, t1⟩, _⟩ := wof_char _ xs t rfl ht
  have hx' := hx
  unfold maxLen at hx'
  have hc : IntKind.u32.wrap t = t := wrap_u32_in t t0 (by omega)
  have HS := Lib.hid (iWordOf_calls A c xs w ha hx)
  rw [ht] at HS
  clear ht ha
  go_enter Try.func19, Try.ntmps19
  go_wp2_with (go_at_call 25; refine HS.out.mono ?_; rintro e w' ⟨he, rfl⟩; simp only [resW] at he; subst he)
  go_ret2
  exact ⟨rfl, rfl⟩
theorem pFrom_no (A : Option Addr) (c : Nat) (xs : List Int) (lo hi : Int) (w : World) (ha : Rds w w.heap.size .i64 A xs) (hx : xs.length ≤ maxLen) (h : (xs.length : Int) < lo ∨ hi < xs.length ∨ wof xs = none) :
    Calls Try.prog 19 #[.slice A xs.length c, .int .i64 lo, .int .i64 hi] w fun e w' => e = .returned (.tuple #[.int .u32 0, .bool false]) ∧ w = w' := by
  have hx' := hx
  unfold maxLen at hx'
  by_cases h1 : (xs.length : Int) < lo
  · clear h
    go_enter Try.func19, Try.ntmps19
    go_wp2_with fail
    go_ret2
    exact ⟨rfl, rfl⟩
  by_cases h2 : hi < (xs.length : Int)
  · clear h
    go_enter Try.func19, Try.ntmps19
    go_wp2_with fail
    go_ret2
    exact ⟨rfl, rfl⟩
  have h3 : wof xs = none := by
    rcases h with h | h | h
    · exact absurd h h1
    · exact absurd h h2
    · exact h
  have HS := Lib.hid (iWordOf_calls A c xs w ha hx)
  rw [h3] at HS
  clear h h3 ha
  go_enter Try.func19, Try.ntmps19
  go_wp2_with (go_at_call 25; refine HS.out.mono ?_; rintro e w' ⟨he, rfl⟩; simp only [resW] at he; subst he)
  go_ret2
  exact ⟨rfl, rfl⟩
theorem z24_info : (Try.prog.info? 33).map (·.size) = some (VL z24).size := pmInfoL z24 rfl
set_option maxRecDepth 100000 in
set_option maxHeartbeats 2000000 in
theorem permFrom_no (A : Option Addr) (c : Nat) (xs : List Int) (w : World) (ha : Rds w w.heap.size .i64 A xs) (hx : xs.length ≤ maxLen) (hp : permB xs = false) :
    Calls Try.prog 13 #[.slice A xs.length c] w fun e w' => e = .returned (.tuple #[.agg (VL z24), .bool false]) ∧ Below w.heap.size w w' := by
  have hno : (xs.length : Int) < 24 ∨ 24 < (xs.length : Int) ∨ wof xs = none := by
    simp only [permB, Bool.and_eq_false_iff, decide_eq_false_iff_not, Option.isSome_eq_false_iff, Option.isNone_iff_eq_none] at hp
    rcases hp with h | h
    · omega
    · exact .inr (.inr h)
  have HS := Lib.hid (fun (W : World) (h : Below w.heap.size w W) => pFrom_no A c xs 24 24 W ((ha.below h).more h.size) hx hno)
  have HB0 := Lib.hid ((Below.refl w.heap.size w).alloc (Nat.le_refl _) (.cells (VL z24) 33))
  have HZ := Lib.hid (Blk.new w 33 (VL z24))
  clear ha hx hp hno
  generalize xs.length = n at *
  go_enter Try.func13, Try.ntmps13
  go_wp2_with fail
  refine (HS.out _ HB0.out).mono ?_
  rintro e w1 ⟨rfl, hw⟩
  have HZ1 : Hid (Blk w1 w.heap.size 33 (VL z24)) := by rw [← hw]; exact HZ
  have HB1 : Hid (Below w.heap.size w w1) := by rw [← hw]; exact HB0
  clear hw HZ HB0
  go_wp2_with (refine wpList_store_row rfl 33 _ _ rfl w.heap.size (VL z24) rfl rfl 33 (VL z24) HZ1.out z24_info rfl (VL_all _) ?_)
  exact bodyPost_ret (results_ct rfl rfl rfl (setRow_heap _ _ _ _ _ _ HZ1.out : Blk _ _ _ _) Try.underlying33 rfl z24_info) rfl ⟨rfl, bel_row HB1.out (Nat.le_refl _)⟩
theorem ifoInt : (Try.prog.info? 3).map (·.size) = some 1 := by kernel_rfl
set_option maxRecDepth 100000 in
set_option maxHeartbeats 2000000 in
theorem permFrom_yes (A : Option Addr) (c : Nat) (xs : List Int) (w : World) (ha : Rds w w.heap.size .i64 A xs) (hx : xs.length ≤ maxLen) (hp : permB xs = true) :
    Calls Try.prog 13 #[.slice A xs.length c] w fun e w' => e = .returned (.tuple #[.agg (VL xs), .bool true]) ∧ Below w.heap.size w w' := by
  have hl := permB_len hp
  obtain ⟨t, ht⟩ : ∃ t, wof xs = some t := by
    simp only [permB, Bool.and_eq_true, Option.isSome_iff_exists] at hp
    exact hp.2
  have HS := Lib.hid (fun (W : World) (h : Below w.heap.size w W) => pFrom_yes A c xs 24 24 t W ((ha.below h).more h.size) hx (by omega) (by omega) ht)
  have HR := Lib.hid (fun (W : World) (h : Below w.heap.size w W) => (show Rds W w.heap.size .i64 A xs from ha.below h))
  have HB0 := Lib.hid ((Below.refl w.heap.size w).alloc (Nat.le_refl _) (.cells (VL z24) 33))
  have HZ := Lib.hid (Blk.new w 33 (VL z24))
  have HL := Lib.hid hl
  have HX := Lib.hid (pmInfoL xs hl)
  have HALL := Lib.hid (VL_all xs)
  have HVZ := Lib.hid (VL_size xs)
  have hn : ∃ n, n = xs.length := ⟨_, rfl⟩
  have HPOS := Lib.hid (fun (W : World) (h : Below w.heap.size w W) => show ∃ ad, A = some ad ∧ ∀ j v, (vals .i64 xs)[j]? = some v → W.cell? (ad.add j) = some v by
    have hr := ha.below h
    rcases hr with h0 | ⟨b, o, rfl, h2, h3⟩
    · rw [h0] at hl; simp at hl
    · refine ⟨_, rfl, fun j v hj => ?_⟩
      have hjl : j < xs.length := by
        have := (List.getElem?_eq_some_iff.1 hj).1
        rwa [vals_len] at this
      rw [vals_get .i64 xs j hjl] at hj
      cases hj
      have := h3 j hjl
      unfold Addr.add
      by_cases hj0 : j = 0
      · subst hj0; simpa using this
      · simpa [hj0] using this)
  have HNN := Lib.hid hl
  have HSPL := Lib.hid (show splice (vals .i64 z24) 0 (vals .i64 xs) = vals .i64 xs by
    unfold splice
    rw [List.take_zero, List.nil_append, List.drop_of_length_le (by rw [vals_len, vals_len, hl]; decide), List.append_nil])
  have HV1 := Lib.hid (show ∀ v ∈ vals .i64 xs, v.oneCell' = true by
    intro v hv
    simp only [vals, List.mem_map] at hv
    obtain ⟨a, _, rfl⟩ := hv
    rfl)
  clear ha hx hp ht hl
  obtain ⟨n, hn⟩ := hn
  have HN := Lib.hid hn
  rw [← hn] at HS HNN ⊢
  clear hn
  go_enter Try.func13, Try.ntmps13
  go_wp2_with fail
  refine (HS.out _ HB0.out).mono ?_
  rintro e w1 ⟨rfl, hw⟩
  have HZ1 : Hid (Blk w1 w.heap.size 33 (VL z24)) := by rw [← hw]; exact HZ
  have HB1 : Hid (Below w.heap.size w w1) := by rw [← hw]; exact HB0
  clear hw HZ HB0
  have hlt := HZ1.out.lt
  have HZ2 := Lib.hid (HZ1.out.alloc (.cells (VL z24) 33))
  have HB2 := Lib.hid (HB1.out.alloc HB1.out.size (.cells (VL z24) 33))
  have HN2 := Lib.hid (Blk.new w1 33 (VL z24))
  have HSB := HB1.out.size
  go_wp2_with (first
    | (refine wpList_copy_splice rfl _ _ 22 22 rfl 3 Try.underlying22 ifoInt _ _ 24 24 n c rfl rfl w1.heap.size 0 (vals .i64 z24) 33 (by exact HN2.out) (vals .i64 xs) (by rw [vals_len, ← HN.out, HNN.out]; rfl) (fun _ => ⟨rfl, HPOS.out _ HB2.out⟩) (by rw [vals_len, ← HN.out, HNN.out]; decide) (HV1.out) w1.heap.size _ (Below.refl _ _) (Nat.le_refl _) ?_; intro w2 hg2 hb2; (have HG2 : Hid (w2.heap[w1.heap.size]? = some (.cells (VL xs) 33 (0, 0))) := Lib.hid (by have h1 := hg2.out; rw [HSPL.out] at h1; exact h1)); (have HZ3 := Lib.hid (HZ2.out.below hb2 hlt)); (have HB3 := Lib.hid (HB2.out.trans (hb2.mono HSB))); clear hg2 hb2)
    | (refine wpList_load_row rfl 33 _ rfl w1.heap.size rfl 33 (VL xs) (0, 0) _ HG2.out Try.underlying33 rfl HX.out ?_)
    | (refine wpList_store_row rfl 33 _ _ rfl w.heap.size (VL xs) rfl rfl 33 (VL z24) HZ3.out HX.out (by rw [HVZ.out, HL.out]; rfl) HALL.out ?_))
  exact bodyPost_ret (results_ct rfl rfl rfl (setRow_heap _ _ _ _ _ _ HZ3.out : Blk _ _ _ _) Try.underlying33 rfl HX.out) rfl ⟨rfl, bel_row HB3.out (Nat.le_refl _)⟩
end Go.Proofs.Ytiodikflmijhkaa
