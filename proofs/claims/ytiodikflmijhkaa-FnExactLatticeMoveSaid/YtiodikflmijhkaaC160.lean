/- Lists over the cells of vectors: owned, marked. -/
import Derived.Test.YtiodikflmijhkaaQ3
import Derived.Test.YtiodikflmijhkaaC159
namespace Go.Proofs.Ytiodikflmijhkaa
open Go.RowKit
set_option linter.unusedVariables false

/-- The list over a vector's own cells, at or above block B. -/
def OwnV (w : World) (B : Nat) (v : Value) (xs : List Int) : Prop := w.ownsRow B 30 1 v xs.length (vals .i64 xs)
section
variable {w w' : World} {B B' : Nat} {v : Value} {xs : List Int}
theorem OwnV.nil_ (w : World) (B : Nat) : OwnV w B (.slice none 0 0) [] := w.ownsRow_nil B 30 1
theorem OwnV.form (h : OwnV w B v xs) : (v = .slice none 0 0 ∧ xs = []) ∨ ∃ g cap, v = .slice (some ⟨g, 0, none⟩) xs.length cap ∧ B ≤ g ∧ g < w.heap.size ∧ xs.length ≤ cap ∧ cap ≤ maxLen := by
  rcases h.2 with ⟨h1, h2⟩ | ⟨g, cap, cur, h1, h2, h3, h4, h5, _, _⟩
  · exact .inl ⟨h1, List.eq_nil_of_length_eq_zero h2⟩
  · exact .inr ⟨g, cap, h1, h2, (Array.getElem?_eq_some_iff.1 h3).1, h4, h5⟩
theorem OwnV.len_le (h : OwnV w B v xs) : xs.length ≤ maxLen := by
  rcases h.form with ⟨_, h2⟩ | ⟨g, cap, _, _, _, h4, h5⟩
  · subst h2; simp
  · omega
theorem OwnV.weak (h : OwnV w B v xs) (hB : B' ≤ B) : OwnV w B' v xs := by
  refine ⟨h.1, ?_⟩
  rcases h.2 with h1 | ⟨g, cap, cur, h1, h2, h3⟩
  · exact .inl h1
  · exact .inr ⟨g, cap, cur, h1, by omega, h3⟩
theorem OwnV.cell {g : Nat} {n c : Nat} (h : OwnV w B (.slice (some ⟨g, 0, none⟩) n c) xs) {j : Nat} (hj : j < xs.length) : w.cell? ⟨g, j, none⟩ = some (.int .i64 (xs.getD j 0)) := by
  have := World.ownsRow.cells h (g := g) rfl j _ (vals_get .i64 xs j hj)
  unfold Addr.add at this
  by_cases h0 : j = 0
  · subst h0; simpa using this
  · simpa [h0] using this
theorem OwnV.free {g : Nat} {n c : Nat} (h : OwnV w B (.slice (some ⟨g, 0, none⟩) n c) xs) (j : Nat) : w.frozen? ⟨g, j, none⟩ = false := by
  rcases h.2 with ⟨h1, _⟩ | ⟨g', cap, cur, h1, h2, h3, _⟩
  · cases h1
  · simp only [Value.slice.injEq, Option.some.injEq, Addr.mk.injEq, and_true] at h1
    obtain ⟨rfl, _⟩ := h1
    simp [World.frozen?, h3]
theorem OwnV.rds {A : Option Addr} {n c : Nat} (h : OwnV w B (.slice A n c) xs) : Rds w w.heap.size .i64 A xs := by
  rcases h.form with ⟨_, h2⟩ | ⟨g, cap, h1, _, h3, _⟩
  · exact .inl h2
  · simp only [Value.slice.injEq] at h1
    obtain ⟨rfl, rfl, rfl⟩ := h1
    exact .inr ⟨g, 0, rfl, h3, fun j hj => by rw [Nat.zero_add]; exact h.cell hj⟩
theorem OwnV.alloc (h : OwnV w B v xs) (o : Obj) : OwnV (w.alloc o) B v xs := World.ownsRow.alloc h o
theorem OwnV.drewN (h : OwnV w B v xs) (n : Nat) : OwnV (w.drewN n) B v xs := h
theorem OwnV.below (h : OwnV w B v xs) (hb : Below w.heap.size w w') : OwnV w' B v xs := by
  refine ⟨h.1, ?_⟩
  rcases h.2 with h1 | ⟨g, cap, cur, h1, h2, h3, h4⟩
  · exact .inl h1
  · exact .inr ⟨g, cap, cur, h1, h2, (hb.block g (Array.getElem?_eq_some_iff.1 h3).1).trans h3, h4⟩
theorem OwnV.set {g c : Nat} {n : Nat} (h : OwnV w B (.slice (some ⟨g, 0, none⟩) n c) xs) (j : Nat) (x : Int) : OwnV (w.setCell ⟨g, j, none⟩ (.int .i64 x)) B (.slice (some ⟨g, 0, none⟩) n c) (xs.set j x) := by
  have hn : n = xs.length := by
    rcases h.form with ⟨h1, _⟩ | ⟨g', cap, h1, _⟩
    · cases h1
    · simp only [Value.slice.injEq] at h1
      exact h1.2.1
  subst hn
  have := (World.ownsRow.stored h j (.int .i64 x)).1
  rw [vals_set] at this
  unfold OwnV
  simpa using this
theorem OwnV.set_far {p : Addr} (h : OwnV w B v xs) (hp : v.ownBlock ≠ some p.block) (u : Value) : OwnV (w.setCell p u) B v xs := by
  refine ⟨h.1, ?_⟩
  rcases h.2 with h1 | ⟨g, cap, cur, rfl, h2, h3, h4⟩
  · exact .inl h1
  · refine .inr ⟨g, cap, cur, rfl, h2, ?_, h4⟩
    rw [Below.heap_setCell w p u g (fun e => hp (by simp [Value.ownBlock, e]))]
    exact h3
theorem OwnV.slice (h : OwnV w B v xs) : ∃ A c, v = .slice A xs.length c := by
  rcases h.form with ⟨h1, h2⟩ | ⟨g, cap, h1, _⟩
  · exact ⟨none, 0, by rw [h1, h2]; rfl⟩
  · exact ⟨_, _, h1⟩
end

theorem own_atV {w : World} {B : Nat} {A : Option Addr} {n c : Nat} {xs : List Int} (h : OwnV w B (.slice A n c) xs) (hp : 0 < n) : ∃ g, A = some ⟨g, 0, none⟩ ∧ B ≤ g ∧ g < w.heap.size := by
  rcases h.form with ⟨h1, _⟩ | ⟨g, cap, h1, h2, h3, _⟩
  · simp only [Value.slice.injEq] at h1; omega
  · simp only [Value.slice.injEq] at h1
    exact ⟨g, h1.1, h2, h3⟩
/-- A marked list reads as marked. -/
theorem OwnV.rdsM {w : World} {B : Nat} {A : Option Addr} {n c : Nat} {k : Int} {m : Nat} (h : OwnV w B (.slice A n c) (marks k m)) : Rds w w.heap.size .i64 A (marks k m) := h.rds
theorem OwnV.belowM {w w' : World} {B : Nat} {v : Value} {xs : List Int} (h : OwnV w B v xs) (hb : Below w.heap.size w w') : OwnV w' B v xs := h.below hb

set_option maxHeartbeats 400000 in
theorem markV_calls (A : Option Addr) (c : Nat) (xs : List Int) (k : Int) (B : Nat) (w : World) (ho : OwnV w B (.slice A xs.length c) xs) (hx : xs.length ≤ 1048576) (h0 : 0 ≤ k) (h1 : k ≤ 1073741824) :
    Calls Try.prog 8 #[.slice A xs.length c, .int .i64 k] w fun e w' => e = .returned (.int .i64 (k + xs.length)) ∧ OwnV w' B (.slice A xs.length c) (marks k xs.length) ∧ w.grownBy w' (Value.slice A xs.length c).ownBlock := by
  have HO := Lib.hid ho
  clear ho
  go_enter Try.func8, Try.ntmps8
  go_wp2
  go_loopw [1, 5] (fun q i wr => ∃ j : Nat, j ≤ xs.length ∧ i = .int .i64 j ∧ q = .int .i64 (k + j) ∧ Hid (OwnV wr B (.slice A xs.length c) (marks k j ++ xs.drop j)) ∧ Hid (w.grownBy wr (Value.slice A xs.length c).ownBlock)) (fun _ i _ => xs.length - (intOf i).toNat)
  case atStart => exact ⟨0, Nat.zero_le _, rfl, by simp, Lib.hid (by simpa [marks] using HO.out), Lib.hid (World.grownBy.refl _ _)⟩
  case round =>
    obtain ⟨j, hj, rfl, rfl, ho, hg⟩ := hrel
    by_cases hlt : j < xs.length
    · obtain ⟨g, rfl, hBg, hgl⟩ := own_atV ho.out (by omega)
      have c2 := ho.out.cell (j := j) (by simp [marks_len]; omega)
      have f2 := ho.out.free j
      have HS := Lib.hid (ho.out.set j (k + j))
      rw [marks_step k xs j hlt] at HS
      have HG := Lib.hid (grown_trans hg.out (show wr.grownBy (wr.setCell ⟨g, j, none⟩ (.int .i64 (k + j))) (some g) from ⟨rfl, rfl, rfl, by simp, fun i _ hne => Below.heap_setCell wr ⟨g, j, none⟩ _ i (fun e => hne (by rw [e]))⟩))
      clear ho hg
      generalize (marks k j ++ xs.drop j).getD j 0 = y at *
      go_wp2
      go_roundw
      case rel => exact ⟨j + 1, by omega, by go_num, by go_num, HS, HG⟩
      case measure => simp [intOf]; omega
    · obtain rfl : j = xs.length := by omega
      have HS := Lib.hid (show OwnV wr B (.slice A xs.length c) (marks k xs.length) from by have := ho.out; rwa [List.drop_length, List.append_nil] at this)
      clear ho
      go_wp2
      go_ret
      exact ⟨rfl, HS.out, hg.out⟩
theorem own_spanV {w : World} {B : Nat} {v : Value} {xs : List Int} (h : OwnV w B v xs) : ∀ k, v.ownBlock = some k → B ≤ k ∧ k < w.heap.size := by
  intro k hk
  rcases h.form with ⟨h1, _⟩ | ⟨g, cap, h1, h2, h3, _⟩
  · subst h1; simp [Value.ownBlock] at hk
  · subst h1; simp [Value.ownBlock] at hk; omega
theorem OwnV.apart {w w' : World} {B : Nat} {v : Value} {xs : List Int} {row : Option Nat} (h : OwnV w B v xs) (hg : w.grownBy w' row) (hne : ∀ k, v.ownBlock = some k → some k ≠ row) : OwnV w' B v xs := by
  refine ⟨h.1, ?_⟩
  rcases h.2 with h1 | ⟨b, cap, cur, h1, h2, h3, h4⟩
  · exact .inl h1
  · exact .inr ⟨b, cap, cur, h1, h2, (hg.block b (Array.getElem?_eq_some_iff.1 h3).1 (hne b (by rw [h1]; rfl))).trans h3, h4⟩
/-- A vector's cells as a list that is given back. -/
def GotV (w : World) (xs : List Int) (b : Bool) (e : Ending) (w' : World) : Prop := ∃ v, e = .returned (.tuple #[v, .bool b]) ∧ OwnV w' w.heap.size v xs ∧ Below w.heap.size w w'
end Go.Proofs.Ytiodikflmijhkaa
