/- Sextets of the model: which lists are sextets; tables, octads. -/
import Derived.Test.YtagniijhbiglaaaDoorC47
import Derived.Deep.QuietTactic
import Derived.BigQuiet
namespace Go.Proofs.YtagniijhbiglaaaDoor
open Go.RowKit
set_option linter.unusedVariables false
attribute [local irreducible] octS cN octF syn

theorem sxB_len {L : List Int} (h : L.length ≠ 6) : sxB L = false := by
  rcases hb : sxB L with _ | _
  · rfl
  · obtain ⟨w, hw, rfl⟩ := (sxB_iff L).1 hb
    exact absurd (sxOf_len hw) h
theorem getD_ext6 {L M : List Int} (hl : L.length = 6) (hm : M.length = 6) (h : ∀ j, j < 6 → L.getD j 0 = M.getD j 0) : L = M := by
  refine List.ext_getElem (by omega) fun j h1 h2 => ?_
  rw [getD_at _ j h1, getD_at _ j h2]
  exact h j (by omega)
theorem sxB_eq {L : List Int} (h : Tet (L.getD 0 0)) (e : L = sxOf (L.getD 0 0)) : sxB L = true := by
  unfold sxB
  rw [(tetB_iff _).2 h, ← e]
  simp
theorem sxB_ne {L : List Int} (e : L ≠ sxOf (L.getD 0 0)) : sxB L = false := by
  unfold sxB
  rw [decide_eq_false e, Bool.and_false]
theorem sxB_notet {L : List Int} (h : tetB (L.getD 0 0) = false) : sxB L = false := by
  unfold sxB
  rw [h]
  rfl
set_option maxRecDepth 100000 in
set_option maxHeartbeats 1000000 in
theorem sSextetValid_calls (A : Option Addr) (c : Nat) (xs : List Int) (w : World) (ha : Rds w w.heap.size .i64 A xs) (hx : xs.length ≤ maxLen) :
    Calls Tryd.prog 19 #[.slice A xs.length c] w fun e w' => e = .returned (.bool (sxB xs)) ∧ Below w.heap.size w w' := by
  unfold maxLen at hx
  by_cases h6 : xs.length = 6
  · have hl6 : ((xs.length : Nat) : Int) = 6 := by omega
    obtain ⟨b, o, rfl, hb, hc⟩ := ha.at_ (j := 0) (by omega)
    have hc0 : w.cell? ⟨b, o, none⟩ = some (.int .i64 (xs.getD 0 0)) := by simpa using hc
    rcases ht : tetB (xs.getD 0 0) with _ | _
    · have HF := Lib.hid (sxB_notet ht)
      have HS := Lib.hid (sSextetOf_calls (xs.getD 0 0))
      rw [show sxA (xs.getD 0 0) = ([], false) by unfold sxA; rw [ht]; rfl] at HS
      clear ht ha hc h6
      generalize xs.getD 0 0 = x at *
      generalize xs.length = n at *
      go_enter Tryd.func19, Tryd.ntmps19
      go_wp2_with (go_at_call 13; refine (HS.out _).mono ?_; rintro e w1 ⟨v, rfl, o1, b1⟩)
      go_ret
      exact ⟨ret_b HF.out.symm, b1⟩
    · have hT := (tetB_iff _).1 ht
      have HS := Lib.hid (sSextetOf_calls (xs.getD 0 0))
      rw [show sxA (xs.getD 0 0) = (sxOf (xs.getD 0 0), true) by unfold sxA; rw [ht]; rfl] at HS
      have HL := Lib.hid (sxOf_len hT)
      have HYES := Lib.hid (fun e => sxB_eq (L := xs) hT e)
      have HNO := Lib.hid (fun e => sxB_ne (L := xs) e)
      have HEXT := Lib.hid (fun h => getD_ext6 (L := xs) (M := sxOf (xs.getD 0 0)) h6 (sxOf_len hT) h)
      have HA := Lib.hid ha
      have H6 := Lib.hid h6
      clear ht ha hc hT h6
      generalize hys : sxOf (xs.getD 0 0) = ys at *
      generalize xs.getD 0 0 = x at *
      clear hys
      generalize hn : xs.length = n at *
      have HN := Lib.hid hn
      clear hn
      go_enter Tryd.func19, Tryd.ntmps19
      go_wp2_with (go_at_call 13; refine (HS.out _).mono ?_; rintro e w1 ⟨v, rfl, o1, b1⟩)
      obtain ⟨A2, c2, rfl⟩ := o1.slice
      have HR1 := Lib.hid ((HA.out.below b1).more b1.size)
      have HR2 := Lib.hid o1.rds
      have HB := Lib.hid b1
      clear b1 o1 hc0
      go_loopw [5] (fun i wr => ∃ k : Nat, k ≤ 6 ∧ i = .int .i64 k ∧ Hid (∀ j, j < k → xs.getD j 0 = ys.getD j 0) ∧ Hid (Rds wr w1.heap.size .i64 (some ⟨b, o, none⟩) xs) ∧ Hid (Rds wr w1.heap.size .i64 A2 ys) ∧ Hid (Below w.heap.size w wr)) (fun i _ => 6 - (intOf i).toNat)
      case atStart => exact ⟨0, by omega, rfl, Lib.hid (fun j h => absurd h (by omega)), HR1, HR2, HB⟩
      case round =>
        obtain ⟨k, hk, rfl, he, hr1, hr2, hbl⟩ := hrel
        by_cases hlt : k < 6
        · obtain ⟨b1, o1, e1, hb1, hc1⟩ := hr1.out.at_ (j := k) (by rw [HN.out, H6.out]; exact hlt)
          cases e1
          obtain ⟨b2, o2, rfl, hb2, hc2⟩ := hr2.out.at_ (j := k) (by rw [HL.out]; exact hlt)
          have hyl : ((ys.length : Nat) : Int) = 6 := by rw [HL.out]; rfl
          have hq1 : (0 : Int) ≤ (k : Int) := by omega
          have hq2 : (k : Int) < 6 := by omega
          by_cases hxy : xs.getD k 0 = ys.getD k 0
          · have HK1 := Lib.hid (show ∀ j, j < k + 1 → xs.getD j 0 = ys.getD j 0 from fun j hj => by
              by_cases e : j = k
              · rw [e]; exact hxy
              · exact he.out j (by omega))
            rw [hxy] at hc1
            generalize ys.length = m at *
            generalize ys.getD k 0 = y at *
            clear hxy
            go_wp2_with fail
            go_quiet (fail)
            go_wp2_with fail
            go_roundw
            case rel => exact ⟨k + 1, by omega, by go_num, HK1, hr1, hr2, Lib.hid (below_drewN hbl.out _)⟩
            case measure => simp [intOf]; omega
          · have HF := Lib.hid (HNO.out (fun e => hxy (by rw [e])))
            generalize ys.length = m at *
            generalize xs.getD k 0 = x1 at *
            generalize ys.getD k 0 = y1 at *
            have hne : (x1 == y1) = false := by simpa using hxy
            have hne2 : (x1 != y1) = true := by simpa using hxy
            clear hxy
            go_wp2_with fail
            go_quiet (fail)
            go_wp2_with fail
            go_ret
            exact ⟨ret_b HF.out.symm, below_drewN hbl.out _⟩
        · obtain rfl : k = 6 := by omega
          have HF := Lib.hid (HYES.out (HEXT.out he.out))
          go_wp2_with fail
          go_ret
          exact ⟨ret_b HF.out.symm, hbl.out⟩
  · have HF := Lib.hid (sxB_len h6)
    have h61 : (((xs.length : Nat) : Int) == 6) = false := by simp; omega
    have h62 : (((xs.length : Nat) : Int) != 6) = true := by simp; omega
    clear h6
    generalize xs.length = n at *
    go_enter Tryd.func19, Tryd.ntmps19
    go_wp2_with fail
    go_ret
    exact ⟨ret_b HF.out.symm, Below.refl _ _⟩
/-! ### Tables -/
def tabTo (a b : List Int) (m : Nat) : List Int := (List.range m).map fun (j : Nat) => tabE a b (j / 6) (j % 6)
theorem tabTo_len (a b : List Int) (m : Nat) : (tabTo a b m).length = m := by simp [tabTo]
theorem tabTo_snoc (a b : List Int) (i k : Nat) (hk : k < 6) : tabTo a b (6 * i + k + 1) = tabTo a b (6 * i + k) ++ [tabE a b i k] := by
  unfold tabTo
  rw [List.range_succ, List.map_append]
  congr 1
  simp only [List.map_cons, List.map_nil]
  rw [show (6 * i + k) / 6 = i by omega, show (6 * i + k) % 6 = k by omega]
theorem tabE_rng (a b : List Int) (i k : Nat) : 0 ≤ tabE a b i k ∧ tabE a b i k ≤ 24 := wt_range _
set_option maxRecDepth 100000 in
set_option maxHeartbeats 1000000 in
theorem l5Table_calls (A A2 : Option Addr) (c c2 : Nat) (xs ys : List Int) (w : World) (ha : Rds w w.heap.size .i64 A xs) (hb : Rds w w.heap.size .i64 A2 ys) (h6 : xs.length = 6) (h62 : ys.length = 6) (hw : ∀ j, j < 6 → IsW (xs.getD j 0)) (hw2 : ∀ j, j < 6 → IsW (ys.getD j 0)) :
    Calls Tryd.prog 60 #[.slice A 6 c, .slice A2 6 c2] w fun e w' => ∃ v, e = .returned v ∧ Own w' w.heap.size v (tab36 xs ys) ∧ Below w.heap.size w w' := by
  have HO := Lib.hid (own_empty w w.heap.size (Nat.le_refl _))
  have HA := Lib.hid ha
  have HB := Lib.hid hb
  have H6 := Lib.hid h6
  have H62 := Lib.hid h62
  have HW := Lib.hid hw
  have HW2 := Lib.hid hw2
  clear ha hb h6 h62 hw hw2
  go_enter Tryd.func60, Tryd.ntmps60
  go_wp2_with fail
  go_loopw [5, 6] (fun v i wr => ∃ p : Nat, p ≤ 6 ∧ i = .int .i64 p ∧ Hid (Own wr w.heap.size v (tabTo xs ys (6 * p))) ∧ Hid (Below w.heap.size w wr)) (fun _ i _ => 6 - (intOf i).toNat)
  case atStart => exact ⟨0, by omega, rfl, HO, Lib.hid ((Below.refl _ _).alloc (Nat.le_refl _) _)⟩
  case round =>
    obtain ⟨p, hp, rfl, ho, hbl⟩ := hrel
    by_cases hlt : p < 6
    · have hp1 : (0 : Int) ≤ (p : Int) := by omega
      have hp2 : (p : Int) < 6 := by omega
      go_wp2_with fail
      go_loopw [5, 7] (fun v i wr => ∃ k : Nat, k ≤ 6 ∧ i = .int .i64 k ∧ Hid (Own wr w.heap.size v (tabTo xs ys (6 * p + k))) ∧ Hid (Below w.heap.size w wr)) (fun _ i _ => 6 - (intOf i).toNat)
      case atStart => exact ⟨0, by omega, rfl, ho, hbl⟩
      case round =>
        obtain ⟨k, hk, rfl, ho, hbl⟩ := hrel
        by_cases hlt2 : k < 6
        · obtain ⟨b1, o1, rfl, hb1, hc1⟩ := (HA.out.below hbl.out).at_ (j := p) (by rw [H6.out]; exact hlt)
          obtain ⟨b2, o2, rfl, hb2', hc2⟩ := (HB.out.below hbl.out).at_ (j := k) (by rw [H62.out]; exact hlt2)
          have hq1 : (0 : Int) ≤ (k : Int) := by omega
          have hq2 : (k : Int) < 6 := by omega
          have hx := HW.out p hlt
          have hy := HW2.out k hlt2
          have HS := Lib.hid (tabTo_snoc xs ys p k hlt2)
          have HE := Lib.hid (show wt (andI (xs.getD p 0) (ys.getD k 0)) = tabE xs ys p k from rfl)
          have hl := tabTo_len xs ys (6 * p + k)
          have hll : (tabTo xs ys (6 * p + k)).length ≤ 1048576 := by omega
          have hand := and_i64w _ _ hx hy
          generalize tabTo xs ys (6 * p + k) = L at *
          generalize tabE xs ys p k = t at *
          generalize xs.getD p 0 = x at *
          generalize ys.getD k 0 = y at *
          generalize andI x y = m at *
          go_wp2_with fail
          have hsz := hbl.out.size
          have l1 : b1 < wr.heap.size := by omega
          have l2 : b2 < wr.heap.size := by omega
          go_region_held3 (fun w' => w'.cell? ⟨b1, o1 + p, none⟩ = some (.int .i64 x) ∧ w'.cell? ⟨b2, o2 + k, none⟩ = some (.int .i64 y))
            (first | go_keep | (go_split_ands; exact ⟨(hb2.cell (p := ⟨b1, o1 + p, none⟩) hb1).trans (by assumption), (hb2.cell (p := ⟨b2, o2 + k, none⟩) hb2').trans (by assumption)⟩))
            ((first
              | (go_at_call 49; refine (l1Weight_calls _ _).mono ?_; rintro e w' ⟨he, rfl⟩; rw [HE.out] at he; subst he)
              | (refine step_push rfl _ _ (by rfl) wr w.heap.size u5 L t 1 (by rfl) (by rfl) ho.out hll hsz ?_; intro v2 w2 ho2 hb2 hg2)))
          rw [← HS.out] at ho2
          go_wp2_with fail
          go_roundw
          case rel => exact ⟨k + 1, by omega, by go_num, Lib.hid ho2, Lib.hid (hbl.out.trans hb2)⟩
          case measure => simp [intOf]; omega
        · obtain rfl : k = 6 := by omega
          have hp3 : IntKind.i64.wrap ((p : Int) + 1) = (p : Int) + 1 := by rw [IntKind.wrap_i64]; omega
          go_wp2_with fail
          go_roundw
          case rel => exact ⟨p + 1, by omega, by go_num, Lib.hid (by rw [show 6 * (p + 1) = 6 * p + 6 by omega]; exact ho.out), hbl⟩
          case measure => simp [intOf]; omega
    · obtain rfl : p = 6 := by omega
      go_wp2_with fail
      go_ret
      exact ⟨_, rfl, ho.out, hbl.out⟩
set_option maxHeartbeats 1000000 in
theorem sSextetTable_calls (A A2 : Option Addr) (c c2 : Nat) (xs ys : List Int) (w : World) (ha : Rds w w.heap.size .i64 A xs) (hx : xs.length ≤ maxLen) (hb : Rds w w.heap.size .i64 A2 ys) (hy : ys.length ≤ maxLen) :
    Calls Tryd.prog 22 #[.slice A xs.length c, .slice A2 ys.length c2] w (GotL w (tabA xs ys).1 (tabA xs ys).2) := by
  have HA := Lib.hid (fun (W : World) (h : Below w.heap.size w W) => sSextetValid_calls A c xs W ((ha.below h).more h.size) hx)
  have HB := Lib.hid (fun (W : World) (h : Below w.heap.size w W) => sSextetValid_calls A2 c2 ys W ((hb.below h).more h.size) hy)
  have HX := Lib.hid hx
  have HY := Lib.hid hy
  rcases h1 : sxB xs with _ | _
  · rw [show tabA xs ys = ([], false) by unfold tabA; rw [h1]; rfl]
    have H1 := Lib.hid h1
    clear h1 ha hb hx hy
    generalize xs.length = n at *
    generalize ys.length = m at *
    go_enter Tryd.func22, Tryd.ntmps22
    go_wp2_with fail
    refine (HA.out _ (Below.refl _ _)).mono ?_
    rintro e w1 ⟨he, b1⟩
    rw [H1.out] at he
    subst he
    have HE := Lib.hid (own_empty w1 w1.heap.size (Nat.le_refl _))
    go_wp2_with fail
    go_ret2
    exact ⟨_, rfl, HE.out.weak b1.size, b1.alloc b1.size _⟩
  rcases h2 : sxB ys with _ | _
  · rw [show tabA xs ys = ([], false) by unfold tabA; rw [h1, h2]; rfl]
    have H1 := Lib.hid h1
    have H2 := Lib.hid h2
    clear h1 h2 ha hb hx hy
    generalize xs.length = n at *
    generalize ys.length = m at *
    go_enter Tryd.func22, Tryd.ntmps22
    go_wp2_with fail
    refine (HA.out _ (Below.refl _ _)).mono ?_
    rintro e w1 ⟨he, b1⟩
    rw [H1.out] at he
    subst he
    go_wp2_with fail
    refine (HB.out _ b1).mono ?_
    rintro e w2 ⟨he, b2⟩
    rw [H2.out] at he
    subst he
    have HE := Lib.hid (own_empty w2 w2.heap.size (Nat.le_refl _))
    have b3 := b1.trans (b2.mono b1.size)
    clear b2
    go_wp2_with fail
    go_ret2
    exact ⟨_, rfl, HE.out.weak b3.size, b3.alloc b3.size _⟩
  rw [show tabA xs ys = (tab36 xs ys, true) by unfold tabA; rw [h1, h2]; rfl]
  obtain ⟨u, hu, hxu⟩ := (sxB_iff xs).1 h1
  obtain ⟨v, hv, hyv⟩ := (sxB_iff ys).1 h2
  have l1 : xs.length = 6 := by rw [hxu]; exact sxOf_len hu
  have l2 : ys.length = 6 := by rw [hyv]; exact sxOf_len hv
  have w1' : ∀ j, j < 6 → IsW (xs.getD j 0) := fun j hj => by rw [hxu]; have := (sxOf_same hu (sx_at hu j hj)).1; exact ⟨this.1, this.2.1⟩
  have w2' : ∀ j, j < 6 → IsW (ys.getD j 0) := fun j hj => by rw [hyv]; have := (sxOf_same hv (sx_at hv j hj)).1; exact ⟨this.1, this.2.1⟩
  have HT := Lib.hid (fun (W : World) (h : Below w.heap.size w W) => l5Table_calls A A2 c c2 xs ys W ((ha.below h).more h.size) ((hb.below h).more h.size) l1 l2 w1' w2')
  have H1 := Lib.hid h1
  have H2 := Lib.hid h2
  rw [l1] at HA ⊢
  rw [l2] at HB ⊢
  clear h1 h2 ha hb hx hy hxu hyv hu hv l1 l2 w1' w2' HX HY
  generalize tab36 xs ys = T at *
  go_enter Tryd.func22, Tryd.ntmps22
  go_wp2_with fail
  refine (HA.out _ (Below.refl _ _)).mono ?_
  rintro e w1 ⟨he, b1⟩
  rw [H1.out] at he
  subst he
  go_wp2_with fail
  refine (HB.out _ b1).mono ?_
  rintro e w2 ⟨he, b2⟩
  rw [H2.out] at he
  subst he
  have b3 := b1.trans (b2.mono b1.size)
  clear b2
  go_wp2_with fail
  refine (HT.out _ b3).mono ?_
  rintro e w3 ⟨v, rfl, o3, b4⟩
  go_wp2_with fail
  go_ret2
  exact ⟨_, rfl, o3.weak b3.size, b3.trans (b4.mono b3.size)⟩
end Go.Proofs.YtagniijhbiglaaaDoor
