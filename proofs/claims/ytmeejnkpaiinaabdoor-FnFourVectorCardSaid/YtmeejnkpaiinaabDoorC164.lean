/- Vectors of the model: VectorValid, LatticeInner, LatticeShape. -/
import Derived.Test.YtmeejnkpaiinaabDoorQ3
import Derived.Test.YtmeejnkpaiinaabDoorQ4
import Derived.Test.YtmeejnkpaiinaabDoorC113
import Derived.Test.YtmeejnkpaiinaabDoorC159
import Derived.Test.YtmeejnkpaiinaabDoorM43
import Derived.BigQuiet
import Derived.Deep.RegionHeld3
import Derived.Deep.AppendLies
namespace Go.Proofs.YtmeejnkpaiinaabDoor
open Go.RowKit
set_option linter.unusedVariables false
attribute [local irreducible] cN syn

def okTo (xs : List Int) : Nat → Bool
  | 0 => true
  | k + 1 => okTo xs k && okN (atL xs k)
theorem okTo_iff (xs : List Int) : ∀ k, okTo xs k = true ↔ ∀ p, p < k → okN (atL xs p) = true
  | 0 => by simp [okTo]
  | k + 1 => by
    rw [okTo, Bool.and_eq_true, okTo_iff xs k]
    constructor
    · rintro ⟨h1, h2⟩ p hp
      by_cases e : p = k
      · rw [e]; exact h2
      · exact h1 p (by omega)
    · exact fun h => ⟨fun p hp => h p (by omega), h k (by omega)⟩
theorem okTo_end (xs : List Int) (h : okTo xs xs.length = true) : vecB xs = decide (xs.length = 24) := by
  by_cases hl : xs.length = 24
  · rw [decide_eq_true hl]
    refine vecB_of hl fun p hp => ?_
    have := (okTo_iff xs _).1 h p (by omega)
    simpa [okN] using this
  · simp [vecB, hl]
theorem okTo_all (xs : List Int) (h : xs.length = 24) : okTo xs 24 = vecB xs := by
  rw [Bool.eq_iff_iff, okTo_iff]
  constructor
  · exact fun k => vecB_of h fun p hp => by have := k p hp; simpa [okN] using this
  · exact fun k p hp => by have := vecB_rng k p; simpa [okN] using this
theorem okTo_no (xs : List Int) (k : Nat) (hn : okN (atL xs k) = false) : vecB xs = false := by
  cases e : vecB xs
  · rfl
  · have := vecB_rng e k
    rw [show okN (atL xs k) = true by simpa [okN] using this] at hn
    cases hn
set_option maxHeartbeats 400000 in
theorem sVectorValid_calls (A : Option Addr) (c : Nat) (xs : List Int) (w : World) (ha : Rds w w.heap.size .i64 A xs) (hx : xs.length ≤ maxLen) :
    Calls Tryd.prog 37 #[.slice A xs.length c] w fun e w' => e = .returned (.bool (vecB xs)) ∧ w = w' := by
  unfold maxLen at hx
  have HNO := Lib.hid (okTo_no xs)
  have HEND := Lib.hid (okTo_end xs)
  go_enter Tryd.func37, Tryd.ntmps37
  go_wp2_with fail
  go_loopw [3] (fun i wr => ∃ k : Nat, k ≤ xs.length ∧ i = .int .i64 k ∧ Hid (okTo xs k = true) ∧ w = wr) (fun i _ => xs.length - (intOf i).toNat)
  case atStart => exact ⟨0, Nat.zero_le _, rfl, Lib.hid rfl, rfl⟩
  case round =>
    obtain ⟨k, hk, rfl, ho, hww⟩ := hrel
    subst hww
    by_cases hlt : k < xs.length
    · obtain ⟨b1, o1, rfl, _, c1⟩ := ha.at_ (j := k) hlt
      replace c1 : w.cell? ⟨b1, o1 + k, none⟩ = some (.int .i64 (atL xs k)) := c1
      have hkl : (k : Int) < (xs.length : Int) := by omega
      have HN := Lib.hid (HNO.out k)
      have HS := Lib.hid (show okN (atL xs k) = true → okTo xs (k + 1) = true by intro h; rw [okTo, ho.out, h]; rfl)
      generalize atL xs k = x at *
      by_cases hp : -100000 ≤ x ∧ x ≤ 100000
      · obtain ⟨hp0, hp1⟩ := hp
        have HS2 := Lib.hid (HS.out (by simp [okN]; omega))
        go_wp2_with (go_at_call 59; refine (l6In_ok _ _ _ _ (by omega) (by omega)).mono ?_; rintro e w' ⟨rfl, rfl⟩)
        go_roundw
        case rel => exact ⟨k + 1, by omega, by go_num, HS2, by first | exact rfl | trivial⟩
        case measure => simp [intOf]; omega
      · have hp' : x < -100000 ∨ 100000 < x := by omega
        have HN2 := Lib.hid (HN.out (by simp [okN]; omega))
        clear hp
        go_wp2_with (go_at_call 59; refine (l6In_no _ _ _ _ hp').mono ?_; rintro e w' ⟨rfl, rfl⟩)
        go_ret
        exact ⟨by rw [HN2.out]; rfl, rfl⟩
    · obtain rfl : k = xs.length := by omega
      have HE := Lib.hid (HEND.out ho.out)
      clear ho
      by_cases hl : xs.length = 24
      · have hl1 : ((xs.length : Int) == 24) = true := by simp [hl]
        have HE2 := Lib.hid (show vecB xs = true by rw [HE.out, decide_eq_true hl])
        clear hl
        go_wp2_with fail
        go_ret
        exact ⟨by rw [HE2.out]; rfl, rfl⟩
      · have hl1 : ((xs.length : Int) == 24) = false := by simp; omega
        have HE2 := Lib.hid (show vecB xs = false by rw [HE.out, decide_eq_false hl])
        clear hl
        go_wp2_with fail
        go_ret
        exact ⟨by rw [HE2.out]; rfl, rfl⟩
set_option maxHeartbeats 1000000 in
theorem sLatticeInner_calls (A A2 : Option Addr) (c c2 : Nat) (xs ys : List Int) (w : World) (ha : Rds w w.heap.size .i64 A xs) (hx : xs.length ≤ maxLen) (ha2 : Rds w w.heap.size .i64 A2 ys) (hy : ys.length ≤ maxLen) :
    Calls Tryd.prog 20 #[.slice A xs.length c, .slice A2 ys.length c2] w fun e w' => e = .returned (.tuple #[.int .i64 (lvInner xs ys).1, .bool (lvInner xs ys).2]) ∧ Below w.heap.size w w' := by
  have HV := Lib.hid (sVectorValid_calls A c xs w ha hx)
  have HV2 := Lib.hid (sVectorValid_calls A2 c2 ys w ha2 hy)
  rcases hb : vecB xs with _ | _
  · rw [show lvInner xs ys = (0, false) by simp [lvInner, hb]]
    rw [hb] at HV
    clear ha hx ha2 hy hb
    generalize xs.length = n at *
    go_enter Tryd.func20, Tryd.ntmps20
    go_wp2_with fail
    refine HV.out.mono ?_
    rintro e w' ⟨rfl, rfl⟩
    go_wp2_with fail
    go_ret2
    exact ⟨rfl, Below.refl _ _⟩
  rcases hb2 : vecB ys with _ | _
  · rw [show lvInner xs ys = (0, false) by simp [lvInner, hb2]]
    rw [hb] at HV
    rw [hb2] at HV2
    clear ha hx ha2 hy hb hb2
    generalize xs.length = n at *
    generalize ys.length = n2 at *
    go_enter Tryd.func20, Tryd.ntmps20
    go_wp2_with fail
    refine HV.out.mono ?_
    rintro e w' ⟨rfl, rfl⟩
    go_wp2_with fail
    refine HV2.out.mono ?_
    rintro e w' ⟨rfl, rfl⟩
    go_wp2_with fail
    go_ret2
    exact ⟨rfl, Below.refl _ _⟩
  · rw [show lvInner xs ys = (innL xs ys, true) by simp [lvInner, hb, hb2]]
    have HPR := Lib.hid (fun k => prod_rng (vecB_rng hb k) (vecB_rng hb2 k))
    have HR := Lib.hid (fun k hk => inn_rng hb hb2 k hk)
    obtain ⟨S, hS⟩ : ∃ S : Nat → Int, (fun k => sumZ k (fun p => atL xs p * atL ys p)) = S := ⟨_, rfl⟩
    have hSk : ∀ k, sumZ k (fun p => atL xs p * atL ys p) = S k := fun k => by rw [← hS]
    have HSS := Lib.hid (fun k => show S k + atL xs k * atL ys k = S (k + 1) by rw [← hSk, ← hSk]; rfl)
    have HS0 := Lib.hid (show S 0 = 0 by rw [← hSk]; rfl)
    have HE := Lib.hid (show innL xs ys = S 24 from hSk 24)
    simp only [hSk] at HR
    have HL := Lib.hid (vecB_len hb)
    have HL2 := Lib.hid (vecB_len hb2)
    rw [hb] at HV
    rw [hb2] at HV2
    clear hb hb2 hx hy hS hSk
    go_enter Tryd.func20, Tryd.ntmps20
    go_wp2_with fail
    refine HV.out.mono ?_
    rintro e w' ⟨rfl, rfl⟩
    go_wp2_with fail
    refine HV2.out.mono ?_
    rintro e w' ⟨rfl, rfl⟩
    go_wp2_with fail
    go_loopw [6, 7] (fun s i wr => ∃ p : Nat, p ≤ 24 ∧ i = .int .i64 p ∧ s = .int .i64 (S p) ∧ Hid (Below w.heap.size w wr)) (fun _ i _ => 24 - (intOf i).toNat)
    case atStart => exact ⟨0, by omega, rfl, by rw [HS0.out], Lib.hid (Below.refl _ _)⟩
    case round =>
      obtain ⟨p, hp, rfl, rfl, hb⟩ := hrel
      clear HV HV2
      by_cases hlt : p < 24
      · obtain ⟨B1, o1, rfl, hB1, c1⟩ := (ha.below hb.out).at_ (j := p) (by have := HL.out; omega)
        obtain ⟨B2, o2, rfl, hB2, c2'⟩ := (ha2.below hb.out).at_ (j := p) (by have := HL2.out; omega)
        replace c1 : wr.cell? ⟨B1, o1 + p, none⟩ = some (.int .i64 (atL xs p)) := c1
        replace c2' : wr.cell? ⟨B2, o2 + p, none⟩ = some (.int .i64 (atL ys p)) := c2'
        have k1 : (p : Int) < xs.length := by have := HL.out; omega
        have k2 : (p : Int) < ys.length := by have := HL2.out; omega
        have hpr := HPR.out p
        have h1 := HR.out p (by omega)
        have h2 := HR.out (p + 1) (by omega)
        have HS := Lib.hid (HSS.out p)
        obtain ⟨T, hT⟩ : ∃ T, S (p + 1) = T := ⟨_, rfl⟩
        rw [hT] at HS h2
        have HT := Lib.hid hT
        clear hT
        generalize S p = s at *
        generalize atL xs p = x at *
        generalize atL ys p = y at *
        have hw1 : wrap64 (x * y) = x * y := wrap64_of _ (by omega) (by omega)
        have hw2 : wrap64 (s + x * y) = T := by rw [HS.out]; exact wrap64_of _ (by omega) (by omega)
        go_wp2_with fail
        go_quiet (fail)
        go_wp2_with fail
        go_roundw
        case rel => exact ⟨p + 1, by omega, by go_num, by rw [HT.out]; first | rfl | exact congrArg (Value.int .i64) HS.out, Lib.hid (below_drewN hb.out _)⟩
        case measure => simp [intOf]; omega
      · obtain rfl : p = 24 := by omega
        go_wp2_with fail
        go_ret2
        exact ⟨by rw [HE.out]; rfl, hb.out⟩
end Go.Proofs.YtmeejnkpaiinaabDoor
