/- Lists of lists in memory. -/
import Derived.Test.YtnfpdonlknkccacDoorQ1
import Derived.Deep.RegionWith
namespace Go.Proofs.YtnfpdonlknkccacDoor
open Go.RowKit
set_option linter.unusedVariables false

/-- The slice at A reads as a list of lists of ints, all in blocks below B. -/
def Rds2 (w : World) (B : Nat) (A : Option Addr) (L : List (List Int)) : Prop :=
  ∀ j, j < L.length → ∃ b o A' c, A = some ⟨b, o, none⟩ ∧ b < B ∧ w.cell? ⟨b, o + j, none⟩ = some (.slice A' (L.getD j []).length c) ∧ Rds w B .i64 A' (L.getD j []) ∧ (L.getD j []).length ≤ maxLen
section
variable {w w' : World} {B B' : Nat} {A : Option Addr} {L : List (List Int)}
theorem Rds2.nil_ : Rds2 w B A [] := fun j hj => absurd hj (by simp)
theorem Rds2.keep (h : Rds2 w B A L) (hk : ∀ p : Addr, p.block < B → w'.cell? p = w.cell? p) : Rds2 w' B A L := fun j hj => by
  obtain ⟨b, o, A', c, h1, h2, h3, h4, h5⟩ := h j hj
  exact ⟨b, o, A', c, h1, h2, (hk _ h2).trans h3, h4.keep hk, h5⟩
theorem Rds2.more (h : Rds2 w B A L) (hB : B ≤ B') : Rds2 w B' A L := fun j hj => by
  obtain ⟨b, o, A', c, h1, h2, h3, h4, h5⟩ := h j hj
  exact ⟨b, o, A', c, h1, by omega, h3, h4.more hB, h5⟩
theorem Rds2.below (h : Rds2 w B A L) (hb : Below B w w') : Rds2 w' B A L := h.keep fun _ hp => hb.cell hp
theorem Rds2.drewN (h : Rds2 w B A L) (n : Nat) : Rds2 (w.drewN n) B A L := h
end
set_option maxHeartbeats 400000 in
/-- Equal lists of lists. -/
theorem eqIntSS_yes (A B : Option Addr) (c d : Nat) (L : List (List Int)) (w : World) (ha : Rds2 w w.heap.size A L) (hb : Rds2 w w.heap.size B L) (hx : L.length ≤ maxLen) :
    Calls Tryd.prog 22 #[.slice A L.length c, .slice B L.length d] w fun e w' => e = .returned (.bool true) ∧ ∃ k, w' = w.drewN k := by
  unfold maxLen at hx
  have HA := Lib.hid ha
  have HB := Lib.hid hb
  clear ha hb
  generalize hn : L.length = n at *
  have HN := Lib.hid hn
  clear hn
  go_enter Tryd.func22, Tryd.ntmps22
  go_wp2_with fail
  go_loopw [5] (fun i wr => ∃ k : Nat, k ≤ n ∧ i = .int .i64 k ∧ ∃ m, wr = w.drewN m) (fun i _ => n - (intOf i).toNat)
  case atStart => exact ⟨0, Nat.zero_le _, rfl, 0, rfl⟩
  case round =>
    obtain ⟨k, hk, rfl, m, rfl⟩ := hrel
    by_cases hlt : k < n
    · obtain ⟨b1, o1, A1, c1, rfl, _, e1, r1, l1⟩ := HA.out k (by rw [HN.out]; exact hlt)
      obtain ⟨b2, o2, A2, c2, rfl, _, e2, r2, l2⟩ := HB.out k (by rw [HN.out]; exact hlt)
      have hk1 : (k : Int) < (n : Int) := by omega
      have hk2 : (0 : Int) ≤ (k : Int) := by omega
      have HC := Lib.hid (fun m' => eqIntS_calls A1 A2 c1 c2 _ _ (w.drewN m') r1 r2 l1 l2)
      rw [eqL_refl] at HC
      have HC2 := Lib.hid (HC.out)
      clear r1 r2 l1 l2 HC
      generalize (L.getD k []).length = len at *
      go_wp2_with fail
      go_region_with (go_at_call 26; refine (HC2.out _).mono ?_; rintro e w' ⟨he, kk, rfl⟩; subst he)
      all_goals
        (try go_wp2_with fail)
        (try go_roundw)
        all_goals first
          | exact ⟨⟨k + 1, by omega, by go_num, _, rfl⟩, by simp [intOf]; omega⟩
          | exact ⟨k + 1, by omega, by go_num, _, rfl⟩
          | (simp [intOf]; omega)
    · obtain rfl : k = n := by omega
      go_wp2_with fail
      go_ret
      exact ⟨rfl, m, rfl⟩
set_option maxHeartbeats 400000 in
/-- Equal lists of lists. -/
theorem sameRows_yes (A B : Option Addr) (c d : Nat) (L : List (List Int)) (w : World) (ha : Rds2 w w.heap.size A L) (hb : Rds2 w w.heap.size B L) (hx : L.length ≤ maxLen) :
    Calls Tryd.prog 11 #[.slice A L.length c, .slice B L.length d] w fun e w' => e = .returned (.bool true) ∧ ∃ k, w' = w.drewN k := by
  unfold maxLen at hx
  have HA := Lib.hid ha
  have HB := Lib.hid hb
  clear ha hb
  generalize hn : L.length = n at *
  have HN := Lib.hid hn
  clear hn
  go_enter Tryd.func11, Tryd.ntmps11
  go_wp2_with fail
  go_loopw [5] (fun i wr => ∃ k : Nat, k ≤ n ∧ i = .int .i64 k ∧ ∃ m, wr = w.drewN m) (fun i _ => n - (intOf i).toNat)
  case atStart => exact ⟨0, Nat.zero_le _, rfl, 0, rfl⟩
  case round =>
    obtain ⟨k, hk, rfl, m, rfl⟩ := hrel
    by_cases hlt : k < n
    · obtain ⟨b1, o1, A1, c1, rfl, _, e1, r1, l1⟩ := HA.out k (by rw [HN.out]; exact hlt)
      obtain ⟨b2, o2, A2, c2, rfl, _, e2, r2, l2⟩ := HB.out k (by rw [HN.out]; exact hlt)
      have hk1 : (k : Int) < (n : Int) := by omega
      have hk2 : (0 : Int) ≤ (k : Int) := by omega
      have HC := Lib.hid (fun m' => sameInts_calls A1 A2 c1 c2 _ _ (w.drewN m') r1 r2 l1 l2)
      rw [eqL_refl] at HC
      have HC2 := Lib.hid (HC.out)
      clear r1 r2 l1 l2 HC
      generalize (L.getD k []).length = len at *
      go_wp2_with fail
      go_region_with (go_at_call 33; refine (HC2.out _).mono ?_; rintro e w' ⟨he, kk, rfl⟩; subst he)
      all_goals
        (try go_wp2_with fail)
        (try go_roundw)
        all_goals first
          | exact ⟨⟨k + 1, by omega, by go_num, _, rfl⟩, by simp [intOf]; omega⟩
          | exact ⟨k + 1, by omega, by go_num, _, rfl⟩
          | (simp [intOf]; omega)
    · obtain rfl : k = n := by omega
      go_wp2_with fail
      go_ret
      exact ⟨rfl, m, rfl⟩
end Go.Proofs.YtnfpdonlknkccacDoor
