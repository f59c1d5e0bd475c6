/- Marking a list and asking whether it is held; the model's list of places. -/
import Derived.Test.YtiinekoepoonfabDoorC3
import Derived.Test.YtiinekoepoonfabDoorM3
import Derived.Test.YtiinekoepoonfabDoorM6
namespace Go.Proofs.YtiinekoepoonfabDoor
open Go.RowKit
set_option linter.unusedVariables false

def marks (k : Int) (n : Nat) : List Int := (List.range n).map fun (i : Nat) => k + (i : Int)
theorem marks_len (k : Int) (n : Nat) : (marks k n).length = n := by simp [marks]
theorem marks_get (k : Int) (n j : Nat) (h : j < n) : (marks k n).getD j 0 = k + j := by simp [marks, h]
theorem marks_step (k : Int) (xs : List Int) (j : Nat) (h : j < xs.length) : (marks k j ++ xs.drop j).set j (k + j) = marks k (j + 1) ++ xs.drop (j + 1) := by
  rw [List.set_append_right _ _ (by rw [marks_len]; omega), marks_len, Nat.sub_self]
  have e : xs.drop j = xs[j] :: xs.drop (j + 1) := by rw [List.drop_eq_getElem_cons h]
  rw [e, List.set_cons_zero]
  simp [marks, List.range_succ]
theorem own_at {w : World} {B : Nat} {A : Option Addr} {n c : Nat} {xs : List Int} (h : Own w B (.slice A n c) xs) (hp : 0 < n) : ∃ g, A = some ⟨g, 0, none⟩ ∧ B ≤ g ∧ g < w.heap.size := by
  rcases h.form with ⟨h1, _⟩ | ⟨g, cap, h1, h2, h3, _⟩
  · simp only [Value.slice.injEq] at h1; omega
  · simp only [Value.slice.injEq] at h1
    exact ⟨g, h1.1, h2, h3⟩
theorem own_block {A : Option Addr} {n c n' c' : Nat} : (Value.slice A n c).ownBlock = (Value.slice A n' c').ownBlock := by cases A <;> rfl

/-- A marked list reads as marked. -/
theorem Own.rdsM {w : World} {B : Nat} {A : Option Addr} {n c : Nat} {k : Int} {m : Nat} (h : Own w B (.slice A n c) (marks k m)) : Rds w w.heap.size .i64 A (marks k m) := h.rds
theorem Own.belowM {w w' : World} {B : Nat} {v : Value} {xs : List Int} (h : Own w B v xs) (hb : Below w.heap.size w w') : Own w' B v xs := h.below hb

set_option maxHeartbeats 400000 in
theorem markIntS_calls (A : Option Addr) (c : Nat) (xs : List Int) (k : Int) (B : Nat) (w : World) (ho : Own w B (.slice A xs.length c) xs) (hx : xs.length ≤ 1048576) (h0 : 0 ≤ k) (h1 : k ≤ 1073741824) :
    Calls Tryd.prog 30 #[.slice A xs.length c, .int .i64 k] w fun e w' => e = .returned (.int .i64 (k + xs.length)) ∧ Own w' B (.slice A xs.length c) (marks k xs.length) ∧ w.grownBy w' (Value.slice A xs.length c).ownBlock := by
  have HO := Lib.hid ho
  clear ho
  go_enter Tryd.func30, Tryd.ntmps30
  go_wp2
  go_loopw [1, 5] (fun q i wr => ∃ j : Nat, j ≤ xs.length ∧ i = .int .i64 j ∧ q = .int .i64 (k + j) ∧ Hid (Own wr B (.slice A xs.length c) (marks k j ++ xs.drop j)) ∧ Hid (w.grownBy wr (Value.slice A xs.length c).ownBlock)) (fun _ i _ => xs.length - (intOf i).toNat)
  case atStart => exact ⟨0, Nat.zero_le _, rfl, by simp, Lib.hid (by simpa [marks] using HO.out), Lib.hid (World.grownBy.refl _ _)⟩
  case round =>
    obtain ⟨j, hj, rfl, rfl, ho, hg⟩ := hrel
    by_cases hlt : j < xs.length
    · obtain ⟨g, rfl, hBg, hgl⟩ := own_at ho.out (by omega)
      have c2 := ho.out.cell (j := j) (by simp [marks_len]; omega)
      have f2 := ho.out.free j
      have HS := Lib.hid (ho.out.set j (k + j))
      rw [marks_step k xs j hlt] at HS
      have HG := Lib.hid (grown_trans hg.out (show wr.grownBy (wr.setCell ⟨g, j, none⟩ (.int .i64 (k + j))) (some g) from ⟨rfl, rfl, rfl, by simp, fun i _ hne => Below.heap_setCell wr ⟨g, j, none⟩ _ i (fun e => hne (by rw [e]))⟩))
      clear ho hg
      generalize (marks k j ++ xs.drop j).getD j 0 = y at *
      go_wp2
      go_roundw
      case rel => exact ⟨j + 1, by omega, by go_num, by go_num, HS, HG⟩
      case measure => simp [intOf]; omega
    · obtain rfl : j = xs.length := by omega
      have HS := Lib.hid (show Own wr B (.slice A xs.length c) (marks k xs.length) from by have := ho.out; rwa [List.drop_length, List.append_nil] at this)
      clear ho
      go_wp2
      go_ret
      exact ⟨rfl, HS.out, hg.out⟩
theorem heldIntS_calls (A : Option Addr) (c n : Nat) (k : Int) (w : World) (hr : Rds w w.heap.size .i64 A (marks k n)) (hx : n ≤ 1048576) (h0 : 0 ≤ k) (h1 : k ≤ 1073741824) :
    Calls Tryd.prog 31 #[.slice A n c, .int .i64 k] w fun e w' => e = .returned (.int .i64 (k + n)) ∧ w = w' := by
  go_enter Tryd.func31, Tryd.ntmps31
  go_wp2
  go_loop [1, 5] (fun q i => ∃ j : Nat, j ≤ n ∧ i = .int .i64 j ∧ q = .int .i64 (k + j)) (fun _ i => n - (intOf i).toNat)
  case atStart => exact ⟨0, Nat.zero_le _, rfl, by simp⟩
  case round =>
    obtain ⟨j, hj, rfl, rfl⟩ := hrel
    by_cases hlt : j < n
    · obtain ⟨b, o, rfl, _, hc⟩ := hr.at_ (j := j) (by rw [marks_len]; exact hlt)
      rw [marks_get k n j hlt] at hc
      go_wp2
      go_round
      case rel => exact ⟨j + 1, by omega, by go_num, by go_num⟩
      case measure => simp [intOf]; omega
    · obtain rfl : j = n := by omega
      go_wp2
      go_ret
      exact ⟨rfl, rfl⟩

theorem own_empty (w : World) (B : Nat) (hB : B ≤ w.heap.size) : Own (w.alloc (.cells #[] 3)) B (.slice (some ⟨w.heap.size, 0, none⟩) 0 0) [] :=
  ⟨rfl, .inr ⟨w.heap.size, 0, #[], rfl, hB, heap_alloc_new w _, by simp, by unfold maxLen; omega, by simp, by simp [vals]⟩⟩
def plNI (W N : Nat) : List Int := (plN W N).map fun (i : Nat) => (i : Int)
theorem plNI_succ (W N : Nat) : plNI W (N + 1) = plNI W N ++ if W.testBit N then [(N : Int)] else [] := by
  unfold plNI
  rw [plN_succ, List.map_append]
  cases W.testBit N <;> simp
theorem plNI_len (W N : Nat) : (plNI W N).length ≤ N := by
  unfold plNI plN
  have := List.length_filter_le (fun i => W.testBit i) (List.range N)
  simpa using this
set_option maxHeartbeats 400000 in
theorem l1Places_calls (W : Nat) (w : World) :
    Calls Tryd.prog 60 #[.int .i64 W] w fun e w' => ∃ v, e = .returned v ∧ Own w' w.heap.size v (plI W) ∧ Below w.heap.size w w' := by
  have HO := Lib.hid (own_empty w w.heap.size (Nat.le_refl _))
  go_enter Tryd.func60, Tryd.ntmps60
  go_wp2
  go_loopw [3, 4] (fun v i wr => ∃ k : Nat, k ≤ 24 ∧ i = .int .i64 k ∧ Hid (Own wr w.heap.size v (plNI W k)) ∧ Hid (Below w.heap.size w wr)) (fun _ i _ => 24 - (intOf i).toNat)
  case atStart => exact ⟨0, by omega, rfl, HO, Lib.hid ((Below.refl _ _).alloc (Nat.le_refl _) _)⟩
  case round =>
    obtain ⟨k, hk, rfl, ho, hb⟩ := hrel
    clear HO
    by_cases hlt : k < 24
    · have hs := plNI_succ W k
      have hl := plNI_len W k
      have hbit := bitI_nat W k
      cases hB : W.testBit k
      · rw [hB] at hs hbit
        have hbb : (bitI (W : Int) (k : Int) == 1) = false := by rw [hbit]; rfl
        have HS := Lib.hid (show plNI W (k + 1) = plNI W k by rw [hs]; simp)
        clear hs hbit hB
        go_wp2_with (go_at_call 66; refine (l1Bit_calls _ _ _ (by omega) (by omega)).mono ?_; rintro e w' ⟨rfl, rfl⟩)
        go_roundw
        case rel => exact ⟨k + 1, by omega, by go_num, by rw [HS.out]; exact ho, hb⟩
        case measure => simp [intOf]; omega
      · rw [hB] at hs hbit
        have hbb : (bitI (W : Int) (k : Int) == 1) = true := by rw [hbit]; rfl
        have HS := Lib.hid (show plNI W (k + 1) = plNI W k ++ [(k : Int)] by rw [hs]; simp)
        clear hs hbit hB
        go_wp2_with (first
          | (go_at_call 66; refine (l1Bit_calls _ _ _ (by omega) (by omega)).mono ?_; rintro e w' ⟨rfl, rfl⟩)
          | (at_builtin; refine wpList_push rfl _ _ rfl wr w.heap.size _ _ _ _ rfl rfl (by exact ho.out) (by omega) hb.out.size ?_; intro v2 w2 ho2 hb2 _))
        rw [← HS.out] at ho2
        go_roundw
        case rel => exact ⟨k + 1, by omega, by go_num, Lib.hid ho2, Lib.hid (hb.out.trans hb2)⟩
        case measure => simp [intOf]; omega
    · obtain rfl : k = 24 := by omega
      go_wp2
      go_ret
      exact ⟨_, rfl, ho.out, hb.out⟩
end Go.Proofs.YtiinekoepoonfabDoor
