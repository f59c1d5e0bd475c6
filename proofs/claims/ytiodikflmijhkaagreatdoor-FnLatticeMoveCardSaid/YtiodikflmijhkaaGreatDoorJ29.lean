/- Joined texts: C42 C110 C112 C117 C118 C119 C160 C161 C162 C163. -/
import Derived.Test.YtiodikflmijhkaaGreatDoorJ28
import Derived.Test.YtiodikflmijhkaaGreatDoorJ11
import Derived.Test.YtiodikflmijhkaaGreatDoorJ13
import Derived.Test.YtiodikflmijhkaaGreatDoorJ08
import Derived.Test.YtiodikflmijhkaaGreatDoorJ12
import Derived.Test.YtiodikflmijhkaaGreatDoorJ14
import Derived.Deep.RegionHeld3
section
namespace Go.Proofs.YtiodikflmijhkaaGreatDoor
open Go.RowKit
set_option linter.unusedVariables false
attribute [local irreducible] octS cN octF

theorem oThrough_rng (xs : List Int) : IsW (oThrough xs).1 := by
  unfold oThrough
  rcases hf : wof xs with _ | t
  · exact ⟨Int.le_refl _, by show (0 : Int) ≤ 16777215; decide⟩
  · by_cases h5 : xs.length = 5
    · simp only [h5, if_true]
      obtain ⟨h1, h2⟩ := wof_is hf
      have hl := oWith_five h1 (by omega)
      have hm : (oWith t).getD 0 0 ∈ oWith t := by
        rw [← getD_at (oWith t) 0 (by omega)]
        exact List.getElem_mem _
      exact (oWith_mem.1 hm).1.rng
    · simp only [h5, if_false]
      exact ⟨Int.le_refl _, by show (0 : Int) ≤ 16777215; decide⟩
set_option maxHeartbeats 2000000 in
theorem l91Octad_calls (g q : Nat) (w : World) (h : Rd w g q) (hq : q ≤ 700000) :
    Calls Tryz.prog 28 #[.pointer (some ⟨g, 0, none⟩)] w fun e w' => ∃ (v : Int) (q' : Nat), e = .returned (.int .i64 v) ∧ -1 ≤ v ∧ v ≤ 16777216 ∧ q' ≤ q + 60 ∧ Rd w' g q' ∧ w.grownBy w' (some g) := by
  go_enter Tryz.func28, Tryz.ntmps28
  go_wp2_with fail
  refine (pick_calls g q 12 _ h (by omega) (by omega) (by omega)).mono ?_
  rintro e w1 ⟨a, rfl, a0, a1, r1, g1⟩
  by_cases h0 : a = 0
  · subst h0
    go_wp2_with fail
    refine (l91Word_calls g _ _ r1 (by omega)).mono ?_
    rintro e w2 ⟨v, q1, rfl, v0, v1, hq1, r2, g2⟩
    go_wp2_with fail
    go_ret
    exact ⟨v, q1, rfl, v0, v1, by omega, r2, grown_trans g1 g2⟩
  · have e0 : (a == 0) = false := by simpa using h0
    clear h0
    go_wp2_with fail
    refine (l91Places_calls g _ 5 _ r1 (by omega) (by omega) (by omega)).mono ?_
    rintro e w2 ⟨v, xs, q1, rfl, o2, hl, _, hq1, r2, g2⟩
    obtain ⟨A, c, rfl⟩ := o2.slice
    have hr := oThrough_rng xs
    have HS := Lib.hid (sOctadThrough_calls A c xs w2 o2.rds o2.len_le)
    have G2 := Lib.hid (grown_trans g1 g2)
    have R2 := Lib.hid r2
    clear g1 g2 r1 r2 o2
    rcases ho : oThrough xs with ⟨t, b⟩
    rw [ho] at HS hr
    clear ho
    dsimp only at HS hr
    have hr1 := hr.1
    have hr2 := hr.2
    go_wp2_with fail
    refine HS.out.mono ?_
    rintro e w3 ⟨rfl, b3⟩
    have R3 := Lib.hid (R2.out.below b3)
    have G3 := Lib.hid (grown_trans G2.out (below_grown b3 (some g)))
    clear b3 R2 G2
    cases b
    · go_wp2_with fail
      go_ret
      exact ⟨0, q1, rfl, by omega, by omega, by omega, R3.out, G3.out⟩
    · go_wp2_with fail
      go_ret
      exact ⟨t, q1, rfl, by omega, by omega, by omega, R3.out, G3.out⟩
end Go.Proofs.YtiodikflmijhkaaGreatDoor
end

section
namespace Go.Proofs.YtiodikflmijhkaaGreatDoor
open Go.RowKit
set_option linter.unusedVariables false
attribute [local irreducible] cN syn

def hexP (row : List Int) : List Int := (List.range 24).map fun i => ((i / 4 * 4 : Nat) : Int) + xorI ((i % 4 : Nat) : Int) (row.getD (i / 4) 0)
def scP (n : Int) : List Int := (List.range 24).map fun i => ((i / 4 * 4 : Nat) : Int) + mulD ((i % 4 : Nat) : Int) n
def plHex (row : List Int) : List Int × Bool := if hIn row then (hexP row, true) else ([], false)
def plScale (n : Int) : List Int × Bool := if decide (1 ≤ n ∧ n ≤ 3) then (scP n, true) else ([], false)
theorem hexP_len (row : List Int) : (hexP row).length = 24 := by simp [hexP]
theorem scP_len (n : Int) : (scP n).length = 24 := by simp [scP]
theorem hexP_at (row : List Int) (i : Nat) (h : i < 24) : (hexP row).getD i 0 = ((i / 4 * 4 : Nat) : Int) + xorI ((i % 4 : Nat) : Int) (row.getD (i / 4) 0) := by simp [hexP, h]
theorem scP_at (n : Int) (i : Nat) (h : i < 24) : (scP n).getD i 0 = ((i / 4 * 4 : Nat) : Int) + mulD ((i % 4 : Nat) : Int) n := by simp [scP, h]
end Go.Proofs.YtiodikflmijhkaaGreatDoor
end

section
namespace Go.Proofs.YtiodikflmijhkaaGreatDoor
open Go.RowKit
set_option linter.unusedVariables false
attribute [local irreducible] cN syn

end Go.Proofs.YtiodikflmijhkaaGreatDoor
end

section
namespace Go.Proofs.YtiodikflmijhkaaGreatDoor
open Go.RowKit
set_option linter.unusedVariables false
attribute [local irreducible] cN syn

set_option maxHeartbeats 1000000 in
theorem l8Square_any (n : Int) (w : World) : Calls Tryz.prog 106 #[.int .i64 n] w fun e w' => ∃ b, e = .returned (.bool b) ∧ w = w' := by
  go_enter Tryz.func106, Tryz.ntmps106
  go_wp2_with fail
  go_loopw [3] (fun i wr => ∃ k : Nat, 1 ≤ k ∧ k ≤ 23 ∧ i = .int .i64 k ∧ w = wr) (fun i _ => 23 - (intOf i).toNat)
  case atStart => exact ⟨1, by omega, by omega, rfl, rfl⟩
  case round =>
    obtain ⟨k, hk0, hk, rfl, hww⟩ := hrel
    subst hww
    by_cases hlt : k < 23
    · have hk1 : (k : Int) < 23 := by omega
      have hk2 : (1 : Int) ≤ (k : Int) := by omega
      go_wp2_with fail
      any_goals (go_ret; exact ⟨_, rfl, rfl⟩; done)
      go_roundw
      case rel => exact ⟨k + 1, by omega, by omega, by go_num, by first | exact rfl | trivial⟩
      case measure => simp [intOf]; omega
    · obtain rfl : k = 23 := by omega
      go_wp2_with fail
      go_ret
      exact ⟨_, rfl, rfl⟩
set_option maxHeartbeats 1000000 in
theorem l8Turned_any (n : Int) (w : World) : Calls Tryz.prog 108 #[.int .i64 n] w fun e w' => ∃ t, e = .returned (.int .i64 t) ∧ w = w' := by
  go_enter Tryz.func108, Tryz.ntmps108
  go_wp2_with fail
  go_loopw [3] (fun i wr => ∃ k : Nat, 1 ≤ k ∧ k ≤ 23 ∧ i = .int .i64 k ∧ w = wr) (fun i _ => 23 - (intOf i).toNat)
  case atStart => exact ⟨1, by omega, by omega, rfl, rfl⟩
  case round =>
    obtain ⟨k, hk0, hk, rfl, hww⟩ := hrel
    subst hww
    by_cases hlt : k < 23
    · have hk1 : (k : Int) < 23 := by omega
      have hk2 : (1 : Int) ≤ (k : Int) := by omega
      go_wp2_with fail
      any_goals (go_ret; exact ⟨_, rfl, rfl⟩; done)
      go_roundw
      case rel => exact ⟨k + 1, by omega, by omega, by go_num, by first | exact rfl | trivial⟩
      case measure => simp [intOf]; omega
    · obtain rfl : k = 23 := by omega
      go_wp2_with fail
      go_ret
      exact ⟨_, rfl, rfl⟩
theorem l8Mod_any (n : Int) (w : World) : Calls Tryz.prog 107 #[.int .i64 n] w fun e w' => ∃ m, e = .returned (.int .i64 m) ∧ w = w' := by
  go_enter Tryz.func107, Tryz.ntmps107
  go_wp2_with fail
  go_ret
  exact ⟨_, rfl, rfl⟩
theorem l8Is_ok (n : Int) (w : World) (h0 : 0 ≤ n) (h1 : n ≤ 22) : Calls Tryz.prog 105 #[.int .i64 n] w fun e w' => e = .returned (.bool true) ∧ w = w' := by
  go_enter Tryz.func105, Tryz.ntmps105
  go_wp2_with (go_at_call 44; refine (l6In_ok _ _ _ _ h0 h1).mono ?_; rintro e w' ⟨rfl, rfl⟩)
  go_ret
  exact ⟨rfl, rfl⟩
set_option maxHeartbeats 1000000 in
theorem l8Given_any (a b c d : Int) (w : World) (a0 : 0 ≤ a) (a1 : a ≤ 22) (b0 : 0 ≤ b) (b1 : b ≤ 22) (c0 : 0 ≤ c) (c1 : c ≤ 22) (d0 : 0 ≤ d) (d1 : d ≤ 22) :
    Calls Tryz.prog 66 #[.int .i64 a, .int .i64 b, .int .i64 c, .int .i64 d] w fun e w' => ∃ t, e = .returned (.bool t) ∧ w = w' := by
  go_enter Tryz.func66, Tryz.ntmps66
  go_wp2_with fail
  refine (l8Is_ok _ _ a0 a1).mono ?_
  rintro e w' ⟨rfl, rfl⟩
  go_wp2_with fail
  refine (l8Is_ok _ _ b0 b1).mono ?_
  rintro e w' ⟨rfl, rfl⟩
  go_wp2_with fail
  refine (l8Is_ok _ _ c0 c1).mono ?_
  rintro e w' ⟨rfl, rfl⟩
  go_wp2_with fail
  refine (l8Is_ok _ _ d0 d1).mono ?_
  rintro e w' ⟨rfl, rfl⟩
  go_wp2_with fail
  refine (l8Mod_any _ _).mono ?_
  rintro e w' ⟨m, rfl, rfl⟩
  go_wp2_with fail
  refine (l8Square_any _ _).mono ?_
  rintro e w' ⟨t, rfl, rfl⟩
  go_wp2_with fail
  go_ret
  exact ⟨_, rfl, rfl⟩
set_option maxHeartbeats 1000000 in
theorem l8Move_any (a b c d x : Int) (w : World) :
    Calls Tryz.prog 67 #[.int .i64 a, .int .i64 b, .int .i64 c, .int .i64 d, .int .i64 x] w fun e w' => ∃ t, e = .returned (.int .i64 t) ∧ w = w' := by
  go_enter Tryz.func67, Tryz.ntmps67
  go_wp2_with (first
    | (go_at_call 107; refine (l8Mod_any _ _).mono ?_; rintro e w' ⟨m, rfl, rfl⟩)
    | (go_at_call 108; refine (l8Turned_any _ _).mono ?_; rintro e w' ⟨m, rfl, rfl⟩))
  all_goals
    go_ret
    exact ⟨_, rfl, rfl⟩
end Go.Proofs.YtiodikflmijhkaaGreatDoor
end

section
namespace Go.Proofs.YtiodikflmijhkaaGreatDoor
open Go.RowKit
set_option linter.unusedVariables false
attribute [local irreducible] cN syn

theorem rd_below {w w' : World} {g q : Nat} (h : Rd w g q) (hb : Below w.heap.size w w') : Rd w' g q := h.keep (hb.mono (by have := h.lt; omega))
end Go.Proofs.YtiodikflmijhkaaGreatDoor
end

section
namespace Go.Proofs.YtiodikflmijhkaaGreatDoor
open Go.RowKit
set_option linter.unusedVariables false
attribute [local irreducible] cN syn

end Go.Proofs.YtiodikflmijhkaaGreatDoor
end

section
namespace Go.Proofs.YtiodikflmijhkaaGreatDoor
open Go.RowKit
set_option linter.unusedVariables false

/-- The list over a vector's own cells, at or above block B. -/
def OwnV (w : World) (B : Nat) (v : Value) (xs : List Int) : Prop := w.ownsRow B 36 1 v xs.length (vals .i64 xs)
section
variable {w w' : World} {B B' : Nat} {v : Value} {xs : List Int}
theorem OwnV.nil_ (w : World) (B : Nat) : OwnV w B (.slice none 0 0) [] := w.ownsRow_nil B 36 1
theorem OwnV.form (h : OwnV w B v xs) : (v = .slice none 0 0 ∧ xs = []) ∨ ∃ g cap, v = .slice (some ⟨g, 0, none⟩) xs.length cap ∧ B ≤ g ∧ g < w.heap.size ∧ xs.length ≤ cap ∧ cap ≤ maxLen := by
  rcases h.2 with ⟨h1, h2⟩ | ⟨g, cap, cur, h1, h2, h3, h4, h5, _, _⟩
  · exact .inl ⟨h1, List.eq_nil_of_length_eq_zero h2⟩
  · exact .inr ⟨g, cap, h1, h2, (Array.getElem?_eq_some_iff.1 h3).1, h4, h5⟩
theorem OwnV.len_le (h : OwnV w B v xs) : xs.length ≤ maxLen := by
  rcases h.form with ⟨_, h2⟩ | ⟨g, cap, _, _, _, h4, h5⟩
  · subst h2; simp
  · omega
theorem OwnV.weak (h : OwnV w B v xs) (hB : B' ≤ B) : OwnV w B' v xs := by
  refine ⟨h.1, ?_⟩
  rcases h.2 with h1 | ⟨g, cap, cur, h1, h2, h3⟩
  · exact .inl h1
  · exact .inr ⟨g, cap, cur, h1, by omega, h3⟩
theorem OwnV.cell {g : Nat} {n c : Nat} (h : OwnV w B (.slice (some ⟨g, 0, none⟩) n c) xs) {j : Nat} (hj : j < xs.length) : w.cell? ⟨g, j, none⟩ = some (.int .i64 (xs.getD j 0)) := by
  have := World.ownsRow.cells h (g := g) rfl j _ (vals_get .i64 xs j hj)
  unfold Addr.add at this
  by_cases h0 : j = 0
  · subst h0; simpa using this
  · simpa [h0] using this
theorem OwnV.free {g : Nat} {n c : Nat} (h : OwnV w B (.slice (some ⟨g, 0, none⟩) n c) xs) (j : Nat) : w.frozen? ⟨g, j, none⟩ = false := by
  rcases h.2 with ⟨h1, _⟩ | ⟨g', cap, cur, h1, h2, h3, _⟩
  · cases h1
  · simp only [Value.slice.injEq, Option.some.injEq, Addr.mk.injEq, and_true] at h1
    obtain ⟨rfl, _⟩ := h1
    simp [World.frozen?, h3]
theorem OwnV.rds {A : Option Addr} {n c : Nat} (h : OwnV w B (.slice A n c) xs) : Rds w w.heap.size .i64 A xs := by
  rcases h.form with ⟨_, h2⟩ | ⟨g, cap, h1, _, h3, _⟩
  · exact .inl h2
  · simp only [Value.slice.injEq] at h1
    obtain ⟨rfl, rfl, rfl⟩ := h1
    exact .inr ⟨g, 0, rfl, h3, fun j hj => by rw [Nat.zero_add]; exact h.cell hj⟩
theorem OwnV.alloc (h : OwnV w B v xs) (o : Obj) : OwnV (w.alloc o) B v xs := World.ownsRow.alloc h o
theorem OwnV.drewN (h : OwnV w B v xs) (n : Nat) : OwnV (w.drewN n) B v xs := h
theorem OwnV.below (h : OwnV w B v xs) (hb : Below w.heap.size w w') : OwnV w' B v xs := by
  refine ⟨h.1, ?_⟩
  rcases h.2 with h1 | ⟨g, cap, cur, h1, h2, h3, h4⟩
  · exact .inl h1
  · exact .inr ⟨g, cap, cur, h1, h2, (hb.block g (Array.getElem?_eq_some_iff.1 h3).1).trans h3, h4⟩
theorem OwnV.set {g c : Nat} {n : Nat} (h : OwnV w B (.slice (some ⟨g, 0, none⟩) n c) xs) (j : Nat) (x : Int) : OwnV (w.setCell ⟨g, j, none⟩ (.int .i64 x)) B (.slice (some ⟨g, 0, none⟩) n c) (xs.set j x) := by
  have hn : n = xs.length := by
    rcases h.form with ⟨h1, _⟩ | ⟨g', cap, h1, _⟩
    · cases h1
    · simp only [Value.slice.injEq] at h1
      exact h1.2.1
  subst hn
  have := (World.ownsRow.stored h j (.int .i64 x)).1
  rw [vals_set] at this
  unfold OwnV
  simpa using this
theorem OwnV.set_far {p : Addr} (h : OwnV w B v xs) (hp : v.ownBlock ≠ some p.block) (u : Value) : OwnV (w.setCell p u) B v xs := by
  refine ⟨h.1, ?_⟩
  rcases h.2 with h1 | ⟨g, cap, cur, rfl, h2, h3, h4⟩
  · exact .inl h1
  · refine .inr ⟨g, cap, cur, rfl, h2, ?_, h4⟩
    rw [Below.heap_setCell w p u g (fun e => hp (by simp [Value.ownBlock, e]))]
    exact h3
theorem OwnV.slice (h : OwnV w B v xs) : ∃ A c, v = .slice A xs.length c := by
  rcases h.form with ⟨h1, h2⟩ | ⟨g, cap, h1, _⟩
  · exact ⟨none, 0, by rw [h1, h2]; rfl⟩
  · exact ⟨_, _, h1⟩
end

theorem OwnV.apart {w w' : World} {B : Nat} {v : Value} {xs : List Int} {row : Option Nat} (h : OwnV w B v xs) (hg : w.grownBy w' row) (hne : ∀ k, v.ownBlock = some k → some k ≠ row) : OwnV w' B v xs := by
  refine ⟨h.1, ?_⟩
  rcases h.2 with h1 | ⟨b, cap, cur, h1, h2, h3, h4⟩
  · exact .inl h1
  · exact .inr ⟨b, cap, cur, h1, h2, (hg.block b (Array.getElem?_eq_some_iff.1 h3).1 (hne b (by rw [h1]; rfl))).trans h3, h4⟩
/-- A vector's cells as a list that is given back. -/
def GotV (w : World) (xs : List Int) (b : Bool) (e : Ending) (w' : World) : Prop := ∃ v, e = .returned (.tuple #[v, .bool b]) ∧ OwnV w' w.heap.size v xs ∧ Below w.heap.size w w'
end Go.Proofs.YtiodikflmijhkaaGreatDoor
end

section
namespace Go.Proofs.YtiodikflmijhkaaGreatDoor
open Go.RowKit
set_option linter.unusedVariables false
set_option linter.unusedSimpArgs false
attribute [local irreducible] cN syn

theorem vcInfo : (Tryz.prog.info? 36).map (·.size) = some 24 := by kernel_rfl
theorem vcInfoL (L : List Int) (h : L.length = 24) : (Tryz.prog.info? 36).map (·.size) = some (VL L).size := by rw [VL_size, h]; exact vcInfo
theorem vdx24 (L : List Int) (h : L.length = 24) (k : Nat) (hk : k < 24) (W : World) : (Instr.index 36 (.agg (VL L)) (.int .i64 (k : Int))).run Tryz.prog W = .ok (.int .i64 (atL L k)) W := by
  obtain ⟨x0, x1, x2, x3, x4, x5, x6, x7, x8, x9, x10, x11, x12, x13, x14, x15, x16, x17, x18, x19, x20, x21, x22, x23, rfl⟩ := list24 L h
  match k, hk with
  | 0, _ => exact (show _ = _ by kernel_rfl)
  | 1, _ => exact (show _ = _ by kernel_rfl)
  | 2, _ => exact (show _ = _ by kernel_rfl)
  | 3, _ => exact (show _ = _ by kernel_rfl)
  | 4, _ => exact (show _ = _ by kernel_rfl)
  | 5, _ => exact (show _ = _ by kernel_rfl)
  | 6, _ => exact (show _ = _ by kernel_rfl)
  | 7, _ => exact (show _ = _ by kernel_rfl)
  | 8, _ => exact (show _ = _ by kernel_rfl)
  | 9, _ => exact (show _ = _ by kernel_rfl)
  | 10, _ => exact (show _ = _ by kernel_rfl)
  | 11, _ => exact (show _ = _ by kernel_rfl)
  | 12, _ => exact (show _ = _ by kernel_rfl)
  | 13, _ => exact (show _ = _ by kernel_rfl)
  | 14, _ => exact (show _ = _ by kernel_rfl)
  | 15, _ => exact (show _ = _ by kernel_rfl)
  | 16, _ => exact (show _ = _ by kernel_rfl)
  | 17, _ => exact (show _ = _ by kernel_rfl)
  | 18, _ => exact (show _ = _ by kernel_rfl)
  | 19, _ => exact (show _ = _ by kernel_rfl)
  | 20, _ => exact (show _ = _ by kernel_rfl)
  | 21, _ => exact (show _ = _ by kernel_rfl)
  | 22, _ => exact (show _ = _ by kernel_rfl)
  | 23, _ => exact (show _ = _ by kernel_rfl)
  | n + 24, h => exact absurd h (by omega)
def vcL (xs : List Int) : List Int := if xs.length = 24 then xs else z24
theorem vcL_len (xs : List Int) : (vcL xs).length = 24 := by
  unfold vcL
  split
  · assumption
  · rfl
theorem vcL_yes {xs : List Int} (h : xs.length = 24) : vcL xs = xs := if_pos h
theorem vcL_no {xs : List Int} (h : xs.length ≠ 24) : vcL xs = z24 := if_neg h
theorem vecB_no {xs : List Int} (h : xs.length ≠ 24) : vecB xs = false := by simp [vecB, h]
theorem load_vec (g : Nat) (VX : Array Value) (hi : (Tryz.prog.info? 36).map (·.size) = some VX.size) (w : World) (hS : w.heap[g]? = some (.cells VX 36 (0, 0))) :
    (Instr.loadAt 36 (.pointer (some ⟨g, 0, none⟩))).run Tryz.prog w = .ok (.agg VX) w := by
  simp only [Instr.loadAt, Instr.sureAddr, Sem.run_bind, Sem.run_pure, Result.andThen_ok, run_loadVar_row w g 36 36 VX (0, 0) _ hS Tryz.underlying36 rfl hi]
set_option maxRecDepth 100000 in
set_option maxHeartbeats 1000000 in
theorem within_calls (xs : List Int) (w : World) (hl : xs.length = 24) :
    Calls Tryz.prog 37 #[.agg (VL xs)] w fun e w' => e = .returned (.bool (vecB xs)) ∧ Below w.heap.size w w' := by
  have HIX := Lib.hid (fun k hk W => vdx24 xs hl k hk W)
  have HNO := Lib.hid (okTo_no xs)
  have HALL := Lib.hid (okTo_all xs hl)
  have HX := Lib.hid (vcInfoL xs hl)
  have HN := Lib.hid (Blk.new w 36 (VL xs))
  have HB := Lib.hid ((Below.refl w.heap.size w).alloc (Nat.le_refl _) (.cells (VL xs) 36))
  generalize hV : VL xs = V at *
  clear hl hV
  go_enter Tryz.func37, Tryz.ntmps37
  go_wp2_with (refine wpList_load_row rfl 36 _ rfl w.heap.size rfl 36 V (0, 0) _ HN.out Tryz.underlying36 rfl HX.out ?_)
  go_loopw [6] (fun i wr => ∃ p : Nat, p ≤ 24 ∧ i = .int .i64 p ∧ Hid (okTo xs p = true) ∧ w.alloc (.cells V 36) = wr) (fun i _ => 24 - (intOf i).toNat)
  case atStart => exact ⟨0, by omega, rfl, Lib.hid rfl, rfl⟩
  case round =>
    obtain ⟨p, hp, rfl, ho, hww⟩ := hrel
    subst hww
    by_cases hlt : p < 24
    · have hp1 : (0 : Int) ≤ (p : Int) := by omega
      have hp2 : (p : Int) < 24 := by omega
      have hix := HIX.out p hlt
      have HNP := Lib.hid (HNO.out p)
      have HS := Lib.hid (show okN (atL xs p) = true → okTo xs (p + 1) = true by intro h; rw [okTo, ho.out, h]; rfl)
      generalize atL xs p = x at *
      by_cases h1 : x < -100000
      · have HN2 := Lib.hid (HNP.out (by simp [okN]; omega))
        go_wp2_with fail
        go_ret
        exact ⟨by rw [HN2.out]; rfl, HB.out⟩
      · by_cases h2 : 100000 < x
        · have HN2 := Lib.hid (HNP.out (by simp [okN]; omega))
          go_wp2_with fail
          go_ret
          exact ⟨by rw [HN2.out]; rfl, HB.out⟩
        · have HN2 := Lib.hid (HS.out (by simp [okN]; omega))
          go_wp2_with fail
          go_roundw
          case rel => exact ⟨p + 1, by omega, by go_num, HN2, by first | exact rfl | trivial⟩
          case measure => simp [intOf]; omega
    · obtain rfl : p = 24 := by omega
      have HO := Lib.hid (show vecB xs = true by rw [← HALL.out]; exact ho.out)
      go_wp2_with fail
      go_ret
      exact ⟨by rw [HO.out]; rfl, HB.out⟩
theorem vfoInt : (Tryz.prog.info? 3).map (·.size) = some 1 := by kernel_rfl
theorem vz24_info : (Tryz.prog.info? 36).map (·.size) = some (VL z24).size := vcInfoL z24 rfl
set_option maxRecDepth 100000 in
set_option maxHeartbeats 2000000 in
theorem vecFrom_no (A : Option Addr) (c : Nat) (xs : List Int) (w : World) (hx : xs.length ≤ maxLen) (hl : xs.length ≠ 24) :
    Calls Tryz.prog 15 #[.slice A xs.length c] w fun e w' => e = .returned (.tuple #[.agg (VL z24), .bool false]) ∧ Below w.heap.size w w' := by
  have hl1 : ((xs.length : Int) != 24) = true := by simp; omega
  have HZ := Lib.hid (Blk.new w 36 (VL z24))
  have HB := Lib.hid ((Below.refl w.heap.size w).alloc (Nat.le_refl _) (.cells (VL z24) 36))
  clear hl hx
  generalize xs.length = n at *
  go_enter Tryz.func15, Tryz.ntmps15
  go_wp2_with (refine wpList_store_row rfl 36 _ _ rfl w.heap.size (VL z24) rfl rfl 36 (VL z24) HZ.out vz24_info rfl (VL_all _) ?_)
  exact bodyPost_ret (results_ct rfl rfl rfl (setRow_heap _ _ _ _ _ _ HZ.out : Blk _ _ _ _) Tryz.underlying36 rfl vz24_info) rfl ⟨rfl, bel_row HB.out (Nat.le_refl _)⟩
set_option maxRecDepth 100000 in
set_option maxHeartbeats 2000000 in
theorem vecFrom_yes (A : Option Addr) (c : Nat) (xs : List Int) (w : World) (ha : Rds w w.heap.size .i64 A xs) (hx : xs.length ≤ maxLen) (hl : xs.length = 24) :
    Calls Tryz.prog 15 #[.slice A xs.length c] w fun e w' => e = .returned (.tuple #[.agg (VL xs), .bool (vecB xs)]) ∧ Below w.heap.size w w' := by
  have HR := Lib.hid (fun (W : World) (h : Below w.heap.size w W) => (show Rds W w.heap.size .i64 A xs from ha.below h))
  have H2 := two_heapV w (.cells (VL z24) 36) (.cells (VL z24) 36)
  have HW := Lib.hid (fun W => within_calls xs W hl)
  have HX := Lib.hid (vcInfoL xs hl)
  have HALL := Lib.hid (VL_all xs)
  have HVZ := Lib.hid (show (VL xs).size = 24 by rw [VL_size, hl])
  have hl1 : ((xs.length : Int) != 24) = false := by simp [hl]
  have HPOS := Lib.hid (fun (W : World) (h : Below w.heap.size w W) => show ∃ ad, A = some ad ∧ ∀ j v, (vals .i64 xs)[j]? = some v → W.cell? (ad.add j) = some v by
    have hr := ha.below h
    rcases hr with h0 | ⟨b, o, rfl, h2, h3⟩
    · rw [h0] at hl; simp at hl
    · refine ⟨_, rfl, fun j v hj => ?_⟩
      have hjl : j < xs.length := by
        have := (List.getElem?_eq_some_iff.1 hj).1
        rwa [vals_len] at this
      rw [vals_get .i64 xs j hjl] at hj
      cases hj
      have := h3 j hjl
      unfold Addr.add
      by_cases hj0 : j = 0
      · subst hj0; simpa using this
      · simpa [hj0] using this)
  have HNN := Lib.hid hl
  have HSPL := Lib.hid (show splice (vals .i64 z24) 0 (vals .i64 xs) = vals .i64 xs by
    unfold splice
    rw [List.take_zero, List.nil_append, List.drop_of_length_le (by rw [vals_len, vals_len, hl]; decide), List.append_nil])
  have HV1 := Lib.hid (show ∀ v ∈ vals .i64 xs, v.oneCell' = true by
    intro v hv
    simp only [vals, List.mem_map] at hv
    obtain ⟨a, _, rfl⟩ := hv
    rfl)
  have hn : ∃ n, n = xs.length := ⟨_, rfl⟩
  clear ha hx hl
  obtain ⟨n, hn⟩ := hn
  have HN := Lib.hid hn
  rw [← hn] at HNN hl1 ⊢
  clear hn
  have H20 := Lib.hid H2.1
  have H21 := Lib.hid H2.2.1
  have H2B := Lib.hid H2.2.2
  clear H2
  have HVV : Hid (VL xs = VL xs) := Lib.hid rfl
  obtain ⟨VX, hVX⟩ : ∃ VX, VL xs = VX := ⟨_, rfl⟩
  rw [hVX] at HX HALL HVZ HW ⊢
  have HVX := Lib.hid hVX
  clear HVV hVX
  generalize vecB xs = b at *
  go_enter Tryz.func15, Tryz.ntmps15
  go_wp2_with (first
    | (refine wpList_copy_splice rfl _ _ 23 23 rfl 3 Tryz.underlying23 vfoInt _ _ 24 24 n c rfl rfl (w.heap.size + 1) 0 (vals .i64 z24) 36 (by exact H21.out) (vals .i64 xs) (by rw [vals_len, ← HN.out, HNN.out]; rfl) (fun _ => ⟨rfl, HPOS.out _ H2B.out⟩) (by rw [vals_len, ← HN.out, HNN.out]; decide) (HV1.out) (w.heap.size + 1) _ (Below.refl _ _) (Nat.le_refl _) ?_; intro w2 hg2 hb2; (have HG2 : Hid (w2.heap[w.heap.size + 1]? = some (.cells VX 36 (0, 0))) := Lib.hid (by have h1 := hg2.out; rw [HSPL.out] at h1; rw [← HVX.out]; exact h1)); (have HZ3 : Hid (Blk w2 w.heap.size 36 (VL z24)) := Lib.hid ((hb2.block w.heap.size (by omega)).trans H20.out)); (have HB3 := Lib.hid (H2B.out.trans (hb2.mono (by omega)))); clear hg2 hb2))
  refine wp_region_held_drew (S := fun W => W.heap[w.heap.size + 1]? = some (Obj.cells VX 36 (0, 0)) ∧ (W.heap[w.heap.size]? = some (Obj.cells (VL z24) 36 (0, 0)) ∨ W.heap[w.heap.size]? = some (Obj.cells VX 36 (0, 0))) ∧ Below w.heap.size w W) (by kernel_rfl) ⟨HG2.out, .inl HZ3.out, HB3.out.drew⟩ (fun hd => ?_)
  refine wpAnyH_take (i := 0) (v := .agg VX) rfl (by kernel_rfl) (by kernel_rfl) (by kernel_rfl) (fun _ _ _ h => h) (Or.inl ⟨by kernel_rfl, fun w hS => by have hrow := load_vec _ VX HX.out w hS.1; change Sem.run Tryz.prog (Instr.loadAt 36 (.pointer (some ⟨_, 0, none⟩)) >>= fun x => pure (Next.value x)) w = _; rw [Sem.run_bind, hrow]; rfl⟩) hd ?_
  change wpAnyH _ _ _ _ _ _ _ (Act.put _ (some 12) (.agg VX)) _
  simp only [Act.put, List.setIfInBounds_toArray, List.set_cons_zero, List.set_cons_succ]
  refine wpAnyH_take (i := 1) (v := .agg VX) rfl (by kernel_rfl) (by kernel_rfl) (by kernel_rfl) (fun _ _ _ h => h) (Or.inl ⟨by kernel_rfl, fun w hS => by have hrow := load_vec _ VX HX.out w hS.1; change Sem.run Tryz.prog (Instr.loadAt 36 (.pointer (some ⟨_, 0, none⟩)) >>= fun x => pure (Next.value x)) w = _; rw [Sem.run_bind, hrow]; rfl⟩) hd ?_
  change wpAnyH _ _ _ _ _ _ _ (Act.put _ (some 13) (.agg VX)) _
  simp only [Act.put, List.setIfInBounds_toArray, List.set_cons_zero, List.set_cons_succ]
  refine wpAnyH_ready (rs := [2]) (by kernel_rfl) (by simp) ?_
  refine AllReadyH.cons rfl (fun K hK => ?_) AllReadyH.nil
  go_simp
  go_at_call 37
  refine (HW.out _).mono ?_
  rintro e w5 ⟨rfl, b5⟩
  have hlt1 := (Array.getElem?_eq_some_iff.1 hd.1).1
  have hd5 : (fun W => W.heap[w.heap.size + 1]? = some (Obj.cells VX 36 (0, 0)) ∧ (W.heap[w.heap.size]? = some (Obj.cells (VL z24) 36 (0, 0)) ∨ W.heap[w.heap.size]? = some (Obj.cells VX 36 (0, 0))) ∧ Below w.heap.size w W) w5 := ⟨(b5.block _ hlt1).trans hd.1, hd.2.1.imp (fun h => (b5.block _ (Array.getElem?_eq_some_iff.1 h).1).trans h) (fun h => (b5.block _ (Array.getElem?_eq_some_iff.1 h).1).trans h), hd.2.2.trans (b5.mono hd.2.2.size)⟩
  clear b5
  refine hK.out _ _ hd5 (fun _ => ?_)
  clear hK
  refine wpAnyH_ready (rs := [3]) (by kernel_rfl) (by simp) ?_
  refine AllReadyH.cons rfl (fun K hK => ?_) AllReadyH.nil
  have hlt8 : ∃ old, old.size = 24 ∧ (w5).heap[w.heap.size]? = some (Obj.cells old 36 (0, 0)) := by
    rcases hd5.2.1 with h | h
    · exact ⟨_, rfl, h⟩
    · exact ⟨_, HVZ.out, h⟩
  obtain ⟨old, ho1, ho2⟩ := hlt8
  rw [if_pos (by rfl)]
  refine wp_store_row 36 _ _ rfl w.heap.size VX rfl rfl 36 old ho2 HX.out (by rw [ho1, HVZ.out]) HALL.out ?_
  have hd6 := setRow_heap _ _ _ VX _ _ ho2
  have hd7 := (setRow_other (w5) w.heap.size (w.heap.size + 1) VX (by omega)).trans hd5.1
  have hd8 : Below w.heap.size w ((w5).setRow w.heap.size VX) := bel_row hd5.2.2 (Nat.le_refl _)
  refine hK.out _ _ ⟨hd7, .inr hd6, hd8⟩ (fun _ => ?_)
  clear hK
  have hd9 : (fun W => W.heap[w.heap.size + 1]? = some (Obj.cells VX 36 (0, 0)) ∧ (W.heap[w.heap.size]? = some (Obj.cells (VL z24) 36 (0, 0)) ∨ W.heap[w.heap.size]? = some (Obj.cells VX 36 (0, 0))) ∧ Below w.heap.size w W) (w5.setRow w.heap.size VX) := ⟨hd7, .inr hd6, hd8⟩
  refine wpAnyH_take (i := 4) (v := .bool b) rfl (by kernel_rfl) (by kernel_rfl) (by kernel_rfl) (fun _ _ _ h => h) (Or.inl ⟨by kernel_rfl, fun w hS => by go_simp⟩) hd9 ?_
  change wpAnyH _ _ _ _ _ _ _ (Act.put _ (some 3) (.bool b)) _
  simp only [Act.put, List.setIfInBounds_toArray, List.set_cons_zero, List.set_cons_succ]
  refine wpAnyH_done (by kernel_rfl) ?_ _
  go_wp2_with fail
  exact bodyPost_ret (results_ct rfl rfl rfl (hd6 : Blk _ _ _ _) Tryz.underlying36 rfl HX.out) rfl ⟨rfl, hd8⟩
theorem vecFrom_calls (A : Option Addr) (c : Nat) (xs : List Int) (w : World) (ha : Rds w w.heap.size .i64 A xs) (hx : xs.length ≤ maxLen) :
    Calls Tryz.prog 15 #[.slice A xs.length c] w fun e w' => e = .returned (.tuple #[.agg (VL (vcL xs)), .bool (vecB xs)]) ∧ Below w.heap.size w w' := by
  by_cases h : xs.length = 24
  · rw [vcL_yes h]; exact vecFrom_yes A c xs w ha hx h
  · rw [vcL_no h, vecB_no h]; exact vecFrom_no A c xs w hx h
end Go.Proofs.YtiodikflmijhkaaGreatDoor
end

section
namespace Go.Proofs.YtiodikflmijhkaaGreatDoor
open Go.RowKit
set_option linter.unusedVariables false
set_option linter.unusedSimpArgs false
attribute [local irreducible] cN syn

end Go.Proofs.YtiodikflmijhkaaGreatDoor
end

section
namespace Go.Proofs.YtiodikflmijhkaaGreatDoor
open Go.RowKit
set_option linter.unusedVariables false
attribute [local irreducible] cN syn

theorem own_24V {w : World} {B g : Nat} (xs : List Int) (hl : xs.length = 24) (hg : w.heap[g]? = some (.cells (VL xs) 36 (0, 0))) (hB : B ≤ g) : OwnV w B (.slice (some ⟨g, 0, none⟩) 24 24) xs :=
  ⟨by simp [vals_len], .inr ⟨g, 24, _, by rw [hl], hB, hg, by simp [hl], by unfold maxLen; omega, by simp [VL, hl], by
    have : (vals .i64 xs).length ≤ xs.length * 1 := by rw [vals_len]; omega
    simp only [VL, vals, Nat.mul_one]
    rw [List.take_of_length_le (by simp)]⟩⟩
theorem own_blockV {w : World} {B g : Nat} {xs : List Int} (hl : xs.length = 24) (h : OwnV w B (.slice (some ⟨g, 0, none⟩) 24 24) xs) : w.heap[g]? = some (.cells (VL xs) 36 (0, 0)) := by
  rcases h.2 with ⟨h1, _⟩ | ⟨g', cap, cur, h1, h2, h3, h4, h5, h6, h7⟩
  · cases h1
  · simp only [Value.slice.injEq, Option.some.injEq, Addr.mk.injEq, and_true] at h1
    obtain ⟨rfl, _, rfl⟩ := h1
    rw [h3]
    rw [List.take_of_length_le (by rw [Array.length_toList, h6, hl]; omega)] at h7
    have : cur = VL xs := by
      apply Array.toList_inj.1
      rw [h7]
      simp [VL, vals]
    rw [this]
set_option maxHeartbeats 1000000 in
theorem vecList_calls (xs : List Int) (w : World) (hl : xs.length = 24) :
    Calls Tryz.prog 18 #[.agg (VL xs)] w fun e w' => ∃ v, e = .returned v ∧ OwnV w' w.heap.size v xs ∧ Below w.heap.size w w' := by
  have HB := Lib.hid ((Below.refl w.heap.size w).alloc (Nat.le_refl _) (.cells (VL xs) 36))
  have HO := Lib.hid (own_24V xs hl (Blk.new w 36 (VL xs)) (Nat.le_refl _))
  clear hl
  generalize hV : VL xs = V at *
  clear hV
  go_enter Tryz.func18, Tryz.ntmps18
  go_wp2_with fail
  go_ret
  exact ⟨_, rfl, HO.out, HB.out⟩
end Go.Proofs.YtiodikflmijhkaaGreatDoor
end
