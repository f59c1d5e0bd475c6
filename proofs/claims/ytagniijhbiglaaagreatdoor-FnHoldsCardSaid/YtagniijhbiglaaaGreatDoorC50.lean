/- Sextets of the model: which lists are sextets; tables, octads. -/
import Derived.Test.YtagniijhbiglaaaGreatDoorC47
import Derived.Deep.QuietTactic
import Derived.BigQuiet
namespace Go.Proofs.YtagniijhbiglaaaGreatDoor
open Go.RowKit
set_option linter.unusedVariables false
attribute [local irreducible] octS cN octF syn

theorem sxB_len {L : List Int} (h : L.length ≠ 6) : sxB L = false := by
  rcases hb : sxB L with _ | _
  · rfl
  · obtain ⟨w, hw, rfl⟩ := (sxB_iff L).1 hb
    exact absurd (sxOf_len hw) h
theorem getD_ext6 {L M : List Int} (hl : L.length = 6) (hm : M.length = 6) (h : ∀ j, j < 6 → L.getD j 0 = M.getD j 0) : L = M := by
  refine List.ext_getElem (by omega) fun j h1 h2 => ?_
  rw [getD_at _ j h1, getD_at _ j h2]
  exact h j (by omega)
theorem sxB_eq {L : List Int} (h : Tet (L.getD 0 0)) (e : L = sxOf (L.getD 0 0)) : sxB L = true := by
  unfold sxB
  rw [(tetB_iff _).2 h, ← e]
  simp
theorem sxB_ne {L : List Int} (e : L ≠ sxOf (L.getD 0 0)) : sxB L = false := by
  unfold sxB
  rw [decide_eq_false e, Bool.and_false]
theorem sxB_notet {L : List Int} (h : tetB (L.getD 0 0) = false) : sxB L = false := by
  unfold sxB
  rw [h]
  rfl
set_option maxRecDepth 100000 in
set_option maxHeartbeats 1000000 in
theorem sSextetValid_calls (A : Option Addr) (c : Nat) (xs : List Int) (w : World) (ha : Rds w w.heap.size .i64 A xs) (hx : xs.length ≤ maxLen) :
    Calls Tryz.prog 17 #[.slice A xs.length c] w fun e w' => e = .returned (.bool (sxB xs)) ∧ Below w.heap.size w w' := by
  unfold maxLen at hx
  by_cases h6 : xs.length = 6
  · have hl6 : ((xs.length : Nat) : Int) = 6 := by omega
    obtain ⟨b, o, rfl, hb, hc⟩ := ha.at_ (j := 0) (by omega)
    have hc0 : w.cell? ⟨b, o, none⟩ = some (.int .i64 (xs.getD 0 0)) := by simpa using hc
    rcases ht : tetB (xs.getD 0 0) with _ | _
    · have HF := Lib.hid (sxB_notet ht)
      have HS := Lib.hid (sSextetOf_calls (xs.getD 0 0))
      rw [show sxA (xs.getD 0 0) = ([], false) by unfold sxA; rw [ht]; rfl] at HS
      clear ht ha hc h6
      generalize xs.getD 0 0 = x at *
      generalize xs.length = n at *
      go_enter Tryz.func17, Tryz.ntmps17
      go_wp2_with (go_at_call 23; refine (HS.out _).mono ?_; rintro e w1 ⟨v, rfl, o1, b1⟩)
      go_ret
      exact ⟨ret_b HF.out.symm, b1⟩
    · have hT := (tetB_iff _).1 ht
      have HS := Lib.hid (sSextetOf_calls (xs.getD 0 0))
      rw [show sxA (xs.getD 0 0) = (sxOf (xs.getD 0 0), true) by unfold sxA; rw [ht]; rfl] at HS
      have HL := Lib.hid (sxOf_len hT)
      have HYES := Lib.hid (fun e => sxB_eq (L := xs) hT e)
      have HNO := Lib.hid (fun e => sxB_ne (L := xs) e)
      have HEXT := Lib.hid (fun h => getD_ext6 (L := xs) (M := sxOf (xs.getD 0 0)) h6 (sxOf_len hT) h)
      have HA := Lib.hid ha
      have H6 := Lib.hid h6
      clear ht ha hc hT h6
      generalize hys : sxOf (xs.getD 0 0) = ys at *
      generalize xs.getD 0 0 = x at *
      clear hys
      generalize hn : xs.length = n at *
      have HN := Lib.hid hn
      clear hn
      go_enter Tryz.func17, Tryz.ntmps17
      go_wp2_with (go_at_call 23; refine (HS.out _).mono ?_; rintro e w1 ⟨v, rfl, o1, b1⟩)
      obtain ⟨A2, c2, rfl⟩ := o1.slice
      have HR1 := Lib.hid ((HA.out.below b1).more b1.size)
      have HR2 := Lib.hid o1.rds
      have HB := Lib.hid b1
      clear b1 o1 hc0
      go_loopw [5] (fun i wr => ∃ k : Nat, k ≤ 6 ∧ i = .int .i64 k ∧ Hid (∀ j, j < k → xs.getD j 0 = ys.getD j 0) ∧ Hid (Rds wr w1.heap.size .i64 (some ⟨b, o, none⟩) xs) ∧ Hid (Rds wr w1.heap.size .i64 A2 ys) ∧ Hid (Below w.heap.size w wr)) (fun i _ => 6 - (intOf i).toNat)
      case atStart => exact ⟨0, by omega, rfl, Lib.hid (fun j h => absurd h (by omega)), HR1, HR2, HB⟩
      case round =>
        obtain ⟨k, hk, rfl, he, hr1, hr2, hbl⟩ := hrel
        by_cases hlt : k < 6
        · obtain ⟨b1, o1, e1, hb1, hc1⟩ := hr1.out.at_ (j := k) (by rw [HN.out, H6.out]; exact hlt)
          cases e1
          obtain ⟨b2, o2, rfl, hb2, hc2⟩ := hr2.out.at_ (j := k) (by rw [HL.out]; exact hlt)
          have hyl : ((ys.length : Nat) : Int) = 6 := by rw [HL.out]; rfl
          have hq1 : (0 : Int) ≤ (k : Int) := by omega
          have hq2 : (k : Int) < 6 := by omega
          by_cases hxy : xs.getD k 0 = ys.getD k 0
          · have HK1 := Lib.hid (show ∀ j, j < k + 1 → xs.getD j 0 = ys.getD j 0 from fun j hj => by
              by_cases e : j = k
              · rw [e]; exact hxy
              · exact he.out j (by omega))
            rw [hxy] at hc1
            generalize ys.length = m at *
            generalize ys.getD k 0 = y at *
            clear hxy
            go_wp2_with fail
            go_quiet (fail)
            go_wp2_with fail
            go_roundw
            case rel => exact ⟨k + 1, by omega, by go_num, HK1, hr1, hr2, Lib.hid (below_drewN hbl.out _)⟩
            case measure => simp [intOf]; omega
          · have HF := Lib.hid (HNO.out (fun e => hxy (by rw [e])))
            generalize ys.length = m at *
            generalize xs.getD k 0 = x1 at *
            generalize ys.getD k 0 = y1 at *
            have hne : (x1 == y1) = false := by simpa using hxy
            have hne2 : (x1 != y1) = true := by simpa using hxy
            clear hxy
            go_wp2_with fail
            go_quiet (fail)
            go_wp2_with fail
            go_ret
            exact ⟨ret_b HF.out.symm, below_drewN hbl.out _⟩
        · obtain rfl : k = 6 := by omega
          have HF := Lib.hid (HYES.out (HEXT.out he.out))
          go_wp2_with fail
          go_ret
          exact ⟨ret_b HF.out.symm, hbl.out⟩
  · have HF := Lib.hid (sxB_len h6)
    have h61 : (((xs.length : Nat) : Int) == 6) = false := by simp; omega
    have h62 : (((xs.length : Nat) : Int) != 6) = true := by simp; omega
    clear h6
    generalize xs.length = n at *
    go_enter Tryz.func17, Tryz.ntmps17
    go_wp2_with fail
    go_ret
    exact ⟨ret_b HF.out.symm, Below.refl _ _⟩
/-! ### Tables -/
def tabTo (a b : List Int) (m : Nat) : List Int := (List.range m).map fun (j : Nat) => tabE a b (j / 6) (j % 6)
theorem tabTo_len (a b : List Int) (m : Nat) : (tabTo a b m).length = m := by simp [tabTo]
theorem tabTo_snoc (a b : List Int) (i k : Nat) (hk : k < 6) : tabTo a b (6 * i + k + 1) = tabTo a b (6 * i + k) ++ [tabE a b i k] := by
  unfold tabTo
  rw [List.range_succ, List.map_append]
  congr 1
  simp only [List.map_cons, List.map_nil]
  rw [show (6 * i + k) / 6 = i by omega, show (6 * i + k) % 6 = k by omega]
theorem tabE_rng (a b : List Int) (i k : Nat) : 0 ≤ tabE a b i k ∧ tabE a b i k ≤ 24 := wt_range _
end Go.Proofs.YtagniijhbiglaaaGreatDoor
