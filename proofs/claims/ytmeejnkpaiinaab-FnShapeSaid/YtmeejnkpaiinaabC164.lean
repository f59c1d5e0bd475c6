/- Vectors of the model: VectorValid, LatticeInner, LatticeShape. -/
import Derived.Test.YtmeejnkpaiinaabQ3
import Derived.Test.YtmeejnkpaiinaabQ4
import Derived.Test.YtmeejnkpaiinaabC113
import Derived.Test.YtmeejnkpaiinaabC159
import Derived.Test.YtmeejnkpaiinaabM43
import Derived.BigQuiet
import Derived.Deep.RegionHeld3
import Derived.Deep.AppendLies
namespace Go.Proofs.Ytmeejnkpaiinaab
open Go.RowKit
set_option linter.unusedVariables false
attribute [local irreducible] cN syn

def okTo (xs : List Int) : Nat → Bool
  | 0 => true
  | k + 1 => okTo xs k && okN (atL xs k)
theorem okTo_iff (xs : List Int) : ∀ k, okTo xs k = true ↔ ∀ p, p < k → okN (atL xs p) = true
  | 0 => by simp [okTo]
  | k + 1 => by
    rw [okTo, Bool.and_eq_true, okTo_iff xs k]
    constructor
    · rintro ⟨h1, h2⟩ p hp
      by_cases e : p = k
      · rw [e]; exact h2
      · exact h1 p (by omega)
    · exact fun h => ⟨fun p hp => h p (by omega), h k (by omega)⟩
theorem okTo_end (xs : List Int) (h : okTo xs xs.length = true) : vecB xs = decide (xs.length = 24) := by
  by_cases hl : xs.length = 24
  · rw [decide_eq_true hl]
    refine vecB_of hl fun p hp => ?_
    have := (okTo_iff xs _).1 h p (by omega)
    simpa [okN] using this
  · simp [vecB, hl]
theorem okTo_all (xs : List Int) (h : xs.length = 24) : okTo xs 24 = vecB xs := by
  rw [Bool.eq_iff_iff, okTo_iff]
  constructor
  · exact fun k => vecB_of h fun p hp => by have := k p hp; simpa [okN] using this
  · exact fun k p hp => by have := vecB_rng k p; simpa [okN] using this
theorem okTo_no (xs : List Int) (k : Nat) (hn : okN (atL xs k) = false) : vecB xs = false := by
  cases e : vecB xs
  · rfl
  · have := vecB_rng e k
    rw [show okN (atL xs k) = true by simpa [okN] using this] at hn
    cases hn
set_option maxHeartbeats 400000 in
theorem sVectorValid_calls (A : Option Addr) (c : Nat) (xs : List Int) (w : World) (ha : Rds w w.heap.size .i64 A xs) (hx : xs.length ≤ maxLen) :
    Calls Try.prog 7 #[.slice A xs.length c] w fun e w' => e = .returned (.bool (vecB xs)) ∧ w = w' := by
  unfold maxLen at hx
  have HNO := Lib.hid (okTo_no xs)
  have HEND := Lib.hid (okTo_end xs)
  go_enter Try.func7, Try.ntmps7
  go_wp2_with fail
  go_loopw [3] (fun i wr => ∃ k : Nat, k ≤ xs.length ∧ i = .int .i64 k ∧ Hid (okTo xs k = true) ∧ w = wr) (fun i _ => xs.length - (intOf i).toNat)
  case atStart => exact ⟨0, Nat.zero_le _, rfl, Lib.hid rfl, rfl⟩
  case round =>
    obtain ⟨k, hk, rfl, ho, hww⟩ := hrel
    subst hww
    by_cases hlt : k < xs.length
    · obtain ⟨b1, o1, rfl, _, c1⟩ := ha.at_ (j := k) hlt
      replace c1 : w.cell? ⟨b1, o1 + k, none⟩ = some (.int .i64 (atL xs k)) := c1
      have hkl : (k : Int) < (xs.length : Int) := by omega
      have HN := Lib.hid (HNO.out k)
      have HS := Lib.hid (show okN (atL xs k) = true → okTo xs (k + 1) = true by intro h; rw [okTo, ho.out, h]; rfl)
      generalize atL xs k = x at *
      by_cases hp : -100000 ≤ x ∧ x ≤ 100000
      · obtain ⟨hp0, hp1⟩ := hp
        have HS2 := Lib.hid (HS.out (by simp [okN]; omega))
        go_wp2_with (go_at_call 16; refine (l6In_ok _ _ _ _ (by omega) (by omega)).mono ?_; rintro e w' ⟨rfl, rfl⟩)
        go_roundw
        case rel => exact ⟨k + 1, by omega, by go_num, HS2, by first | exact rfl | trivial⟩
        case measure => simp [intOf]; omega
      · have hp' : x < -100000 ∨ 100000 < x := by omega
        have HN2 := Lib.hid (HN.out (by simp [okN]; omega))
        clear hp
        go_wp2_with (go_at_call 16; refine (l6In_no _ _ _ _ hp').mono ?_; rintro e w' ⟨rfl, rfl⟩)
        go_ret
        exact ⟨by rw [HN2.out]; rfl, rfl⟩
    · obtain rfl : k = xs.length := by omega
      have HE := Lib.hid (HEND.out ho.out)
      clear ho
      by_cases hl : xs.length = 24
      · have hl1 : ((xs.length : Int) == 24) = true := by simp [hl]
        have HE2 := Lib.hid (show vecB xs = true by rw [HE.out, decide_eq_true hl])
        clear hl
        go_wp2_with fail
        go_ret
        exact ⟨by rw [HE2.out]; rfl, rfl⟩
      · have hl1 : ((xs.length : Int) == 24) = false := by simp; omega
        have HE2 := Lib.hid (show vecB xs = false by rw [HE.out, decide_eq_false hl])
        clear hl
        go_wp2_with fail
        go_ret
        exact ⟨by rw [HE2.out]; rfl, rfl⟩
theorem perm_sortedV {xs ys : List Int} (hp : ys.Perm xs) (hs : ys.Pairwise (· ≤ ·)) : ys = xs.mergeSort fun x y => decide (x ≤ y) := by
  have h2 : (xs.mergeSort fun x y => decide (x ≤ y)).Pairwise (· ≤ ·) := (List.pairwise_mergeSort (fun a b c => by simp only [decide_eq_true_eq]; omega) (fun a b => by simp only [Bool.or_eq_true, decide_eq_true_eq]; omega) _).imp fun h => by simpa using h
  exact (hp.trans (List.mergeSort_perm _ _).symm).eq_of_pairwise (fun a b _ _ h1 h2 => by omega) hs h2
set_option maxHeartbeats 1000000 in
theorem sLatticeShape_calls (A : Option Addr) (c : Nat) (xs : List Int) (w : World) (ha : Rds w w.heap.size .i64 A xs) (hx : xs.length ≤ maxLen) :
    Calls Try.prog 11 #[.slice A xs.length c] w (GotL w (lvShape xs).1 (lvShape xs).2) := by
  have HE := Lib.hid (own_empty2 w w.heap.size (Nat.le_refl _))
  have HV := Lib.hid (sVectorValid_calls A c xs _ ((ha.alloc (Nat.le_refl _) (.cells #[] 3)).more (show w.heap.size ≤ (w.alloc (.cells #[] 3)).heap.size by simp)) hx)
  rcases hb : vecB xs with _ | _
  · rw [show lvShape xs = ([], false) by simp [lvShape, hb]]
    rw [hb] at HV
    clear ha hx hb
    generalize xs.length = n at *
    go_enter Try.func11, Try.ntmps11
    go_wp2_with fail
    refine HV.out.mono ?_
    rintro e w' ⟨rfl, rfl⟩
    go_wp2_with fail
    go_ret2
    exact ⟨_, rfl, HE.out, (Below.refl _ _).alloc (Nat.le_refl _) _⟩
  · rw [show lvShape xs = (shapeL xs, true) by simp [lvShape, hb]]
    rw [hb] at HV
    have HRG := Lib.hid (fun k => vecB_rng hb k)
    obtain ⟨zs, hzs⟩ : ∃ zs, (vL fun p => max (atL xs p) (-atL xs p)) = zs := ⟨_, rfl⟩
    have HSH := Lib.hid (show shapeL xs = zs.mergeSort fun x y => decide (x ≤ y) by rw [← hzs]; rfl)
    have hzl : zs.length = 24 := by rw [← hzs]; exact vL_len _
    have HST := Lib.hid (fun k (hk : k < 24) => show zs.take k ++ [max (atL xs k) (-atL xs k)] = zs.take (k + 1) by
      rw [take_succ_getD zs k (by omega), ← hzs, vL_get _ k hk])
    have HL := Lib.hid (vecB_len hb)
    have HZL := Lib.hid hzl
    have HSO := Lib.hid (fun c0 A0 W h1 h2 h3 => l4Sort_calls 24 zs A0 c0 W hzl (by omega) h1 h2 h3)
    clear hzl hb hx hzs
    go_enter Try.func11, Try.ntmps11
    go_wp2_with fail
    refine HV.out.mono ?_
    rintro e w' ⟨rfl, rfl⟩
    go_wp2_with fail
    go_loopw [4, 5] (fun v i wr => ∃ k : Nat, k ≤ 24 ∧ i = .int .i64 k ∧ Hid (Own wr w.heap.size v (zs.take k)) ∧ Hid (Below w.heap.size w wr)) (fun _ i _ => 24 - (intOf i).toNat)
    case atStart => exact ⟨0, by omega, rfl, HE, Lib.hid ((Below.refl _ _).alloc (Nat.le_refl _) _)⟩
    case round =>
      obtain ⟨k, hk, rfl, ho, hb⟩ := hrel
      clear HE HV
      by_cases hlt : k < 24
      · obtain ⟨B1, o1, rfl, hB1, c1⟩ := (ha.below hb.out).at_ (j := k) (by have := HL.out; omega)
        replace c1 : wr.cell? ⟨B1, o1 + k, none⟩ = some (.int .i64 (atL xs k)) := c1
        have HS := Lib.hid (HST.out k hlt)
        have k1 : (k : Int) < xs.length := by have := HL.out; omega
        have hlen : (zs.take k).length ≤ 24 := by rw [List.length_take]; omega
        have hrg := HRG.out k
        generalize atL xs k = x at *
        have hsz := hb.out.size
        have l1 : B1 < wr.heap.size := by omega
        have hwn : IntKind.i64.wrap (-x) = -x := wrap_i64_of _ (by omega) (by omega)
        have hwn2 : wrap64 (-x) = -x := wrap64_of _ (by omega) (by omega)
        go_wp2_with fail
        go_region_held3 (fun w' => w'.cell? ⟨B1, o1 + k, none⟩ = some (.int .i64 x))
          (first | go_keep | (exact (hb2.cell (p := ⟨B1, o1 + k, none⟩) hB1).trans (by assumption)))
          ((refine step_push rfl _ _ (by rfl) wr w.heap.size u4 (zs.take k) (max x (-x)) 1 (by rfl) (by rfl) ho.out (by omega) hsz ?_; intro v2 w2 ho2 hb2 hg2))
        rw [HS.out] at ho2
        go_wp2
        go_roundw
        case rel => exact ⟨k + 1, by omega, by go_num, Lib.hid ho2, Lib.hid (hb.out.trans hb2)⟩
        case measure => simp [intOf]; omega
      · obtain rfl : k = 24 := by omega
        have ho2 := ho.out
        rw [List.take_of_length_le (by rw [HZL.out]; omega)] at ho2
        have HO := Lib.hid ho2
        clear ho2 ho
        obtain ⟨A5, c5, rfl⟩ := HO.out.slice
        have hcap := own_caps HO.out
        have HCA := Lib.hid hcap
        rw [HZL.out] at HO
        have HQ := Lib.hid (HSO.out c5 A5 wr (by have := HCA.out.1; rw [HZL.out] at this; exact this) HCA.out.2 HO.out.rds)
        rw [HZL.out]
        clear hcap
        go_wp2_with fail
        refine HQ.out.mono ?_
        rintro e w5 ⟨A6, c6, ys, rfl, hp, hs, _, _, _, _, hb5, ho5⟩
        have e5 := perm_sortedV hp hs
        have ho6 := ho5 (by omega)
        rw [e5, ← HSH.out] at ho6
        go_wp2_with fail
        go_ret2
        exact ⟨_, rfl, ho6.weak hb.out.size, hb.out.trans (hb5.mono hb.out.size)⟩
end Go.Proofs.Ytmeejnkpaiinaab
