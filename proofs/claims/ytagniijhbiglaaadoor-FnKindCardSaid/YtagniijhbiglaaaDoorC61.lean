/- Kinds of tables: plain, of the model. -/
import Derived.Test.YtagniijhbiglaaaDoorC59
import Derived.Lib.Slices
namespace Go.Proofs.YtagniijhbiglaaaDoor
open Go.RowKit
set_option linter.unusedVariables false
attribute [local irreducible] octS cN octF syn

def mxTo (T : List Int) : Nat → Int
  | 0 => 0
  | n + 1 => max (mxTo T n) (T.getD n 0)
def hasTo (T : List Int) (m : Int) (i : Nat) : Nat → Bool
  | 0 => false
  | k + 1 => hasTo T m i k || T.getD (6 * i + k) 0 == m
def cntTo (T : List Int) (m : Int) : Nat → Nat
  | 0 => 0
  | i + 1 => cntTo T m i + if hasTo T m i 6 then 1 else 0
def kindV (T : List Int) : Int := 10 * mxTo T 36 + (cntTo T (mxTo T 36) 6 : Nat)
def kindA (a b : List Int) : Int × Bool := if sxB a && sxB b then (kindV (tab36 a b), true) else (0, false)
theorem mxTo_le (T : List Int) : ∀ n j, j < n → T.getD j 0 ≤ mxTo T n
  | n + 1, j, h => by
    rw [mxTo]
    by_cases e : j = n
    · rw [e]; omega
    · have := mxTo_le T n j (by omega); omega
theorem mxTo_nonneg (T : List Int) : ∀ n, 0 ≤ mxTo T n
  | 0 => Int.le_refl _
  | n + 1 => by rw [mxTo]; have := mxTo_nonneg T n; omega
theorem mxTo_rng (T : List Int) (h : ∀ j, T.getD j 0 ≤ 24) : ∀ n, mxTo T n ≤ 24
  | 0 => by unfold mxTo; omega
  | n + 1 => by rw [mxTo]; have := mxTo_rng T h n; have := h n; omega
theorem cntTo_le (T : List Int) (m : Int) : ∀ i, cntTo T m i ≤ i
  | 0 => Nat.le_refl _
  | i + 1 => by rw [cntTo]; have := cntTo_le T m i; split <;> omega
/-- The greatest of a row. -/
def rmT (T : List Int) (i : Nat) : Int := Lib.maxOf (rowT T i)
def gTo (T : List Int) : Nat → Int
  | 0 => 0
  | i + 1 => if gTo T i < rmT T i then rmT T i else gTo T i
def rTo (T : List Int) : Nat → Nat
  | 0 => 0
  | i + 1 => if gTo T i < rmT T i then 1 else if rmT T i = gTo T i then rTo T i + 1 else rTo T i
theorem maxOf_six (a b c d e f : Int) : Lib.maxOf [a, b, c, d, e, f] = max (max (max (max (max a b) c) d) e) f := by
  unfold Lib.maxOf
  simp only [List.headD_cons, List.foldl_cons, List.foldl_nil]
  omega
theorem gTo_mx (T : List Int) : ∀ i, gTo T i = mxTo T (6 * i)
  | 0 => rfl
  | i + 1 => by
    rw [gTo, gTo_mx T i, rmT, rowT, maxOf_six, show 6 * (i + 1) = 6 * i + 1 + 1 + 1 + 1 + 1 + 1 by omega, mxTo, mxTo, mxTo, mxTo, mxTo, mxTo]
    rw [show 6 * i + 1 + 1 = 6 * i + 2 from rfl, show 6 * i + 2 + 1 = 6 * i + 3 from rfl, show 6 * i + 3 + 1 = 6 * i + 4 from rfl, show 6 * i + 4 + 1 = 6 * i + 5 from rfl]
    generalize mxTo T (6 * i) = g
    generalize T.getD (6 * i) 0 = a
    generalize T.getD (6 * i + 1) 0 = b
    generalize T.getD (6 * i + 2) 0 = c
    generalize T.getD (6 * i + 3) 0 = d
    generalize T.getD (6 * i + 4) 0 = e
    generalize T.getD (6 * i + 5) 0 = f
    split <;> omega
theorem hasTo_max (T : List Int) (m : Int) (i : Nat) (h : ∀ k, k < 6 → T.getD (6 * i + k) 0 ≤ m) : hasTo T m i 6 = decide (rmT T i = m) := by
  have h0 := h 0 (by omega)
  have h1 := h 1 (by omega)
  have h2 := h 2 (by omega)
  have h3 := h 3 (by omega)
  have h4 := h 4 (by omega)
  have h5 := h 5 (by omega)
  unfold rmT rowT
  rw [maxOf_six]
  simp only [hasTo, Bool.false_or]
  rw [show 6 * i + 0 = 6 * i from rfl] at *
  generalize T.getD (6 * i) 0 = a at *
  generalize T.getD (6 * i + 1) 0 = b at *
  generalize T.getD (6 * i + 2) 0 = c at *
  generalize T.getD (6 * i + 3) 0 = d at *
  generalize T.getD (6 * i + 4) 0 = e at *
  generalize T.getD (6 * i + 5) 0 = f at *
  rw [Bool.eq_iff_iff]
  simp only [Bool.or_eq_true, beq_iff_eq, decide_eq_true_eq]
  omega
theorem cntTo_none (T : List Int) (m : Int) : ∀ i, (∀ j, j < 6 * i → T.getD j 0 < m) → cntTo T m i = 0
  | 0, _ => rfl
  | i + 1, h => by
    rw [cntTo, cntTo_none T m i (fun j hj => h j (by omega)), hasTo_max T m i (fun k hk => Int.le_of_lt (h _ (by omega)))]
    have hr : rmT T i ≠ m := by
      unfold rmT rowT
      rw [maxOf_six]
      have h0 := h (6 * i) (by omega)
      have h1 := h (6 * i + 1) (by omega)
      have h2 := h (6 * i + 2) (by omega)
      have h3 := h (6 * i + 3) (by omega)
      have h4 := h (6 * i + 4) (by omega)
      have h5 := h (6 * i + 5) (by omega)
      omega
    simp [hr]
theorem rTo_cnt (T : List Int) : ∀ i, rTo T i = cntTo T (gTo T i) i
  | 0 => rfl
  | i + 1 => by
    have hle : ∀ j, j < 6 * (i + 1) → T.getD j 0 ≤ gTo T (i + 1) := fun j hj => by rw [gTo_mx]; exact mxTo_le T _ j hj
    have hlo : ∀ j, j < 6 * i → T.getD j 0 ≤ gTo T i := fun j hj => by rw [gTo_mx]; exact mxTo_le T _ j hj
    have hh := hasTo_max T (gTo T (i + 1)) i (fun k hk => hle _ (by omega))
    rw [cntTo, hh]
    by_cases h1 : gTo T i < rmT T i
    · have hg : gTo T (i + 1) = rmT T i := by rw [gTo, if_pos h1]
      rw [rTo, if_pos h1, hg, cntTo_none T (rmT T i) i (fun j hj => by have := hlo j hj; omega)]
      simp
    · have hg : gTo T (i + 1) = gTo T i := by rw [gTo, if_neg h1]
      rw [rTo, if_neg h1, hg, rTo_cnt T i]
      by_cases h2 : rmT T i = gTo T i
      · rw [if_pos h2]; simp [h2]
      · rw [if_neg h2]; simp [h2]
theorem kindV_is (T : List Int) : kindV T = 10 * gTo T 6 + (rTo T 6 : Nat) := by
  unfold kindV
  rw [rTo_cnt, gTo_mx]
theorem tab36_rng (xs ys : List Int) (j : Nat) : 0 ≤ (tab36 xs ys).getD j 0 ∧ (tab36 xs ys).getD j 0 ≤ 24 := by
  by_cases h : j < 36
  · rw [← getD_at _ j (by simp [tab36]; exact h)]
    unfold tab36
    rw [List.getElem_map]
    exact tabE_rng _ _ _ _
  · have : (tab36 xs ys)[j]? = none := List.getElem?_eq_none (by simp [tab36]; omega)
    rw [List.getD_eq_getElem?_getD, this]
    exact ⟨Int.le_refl _, by decide⟩
set_option maxRecDepth 100000 in
set_option maxHeartbeats 2000000 in
theorem sSextetKind_calls (A A2 : Option Addr) (c c2 : Nat) (xs ys : List Int) (w : World) (ha : Rds w w.heap.size .i64 A xs) (hx : xs.length ≤ maxLen) (hb : Rds w w.heap.size .i64 A2 ys) (hy : ys.length ≤ maxLen) :
    Calls Tryd.prog 25 #[.slice A xs.length c, .slice A2 ys.length c2] w fun e w' => e = .returned (.tuple #[.int .i64 (kindA xs ys).1, .bool (kindA xs ys).2]) ∧ Below w.heap.size w w' := by
  have HS := Lib.hid (sSextetTable_calls A A2 c c2 xs ys w ha hx hb hy)
  clear ha hx hb hy
  rcases h1 : (sxB xs && sxB ys) with _ | _
  · rw [show tabA xs ys = ([], false) by unfold tabA; rw [h1]; rfl] at HS
    rw [show kindA xs ys = (0, false) by unfold kindA; rw [h1]; rfl]
    clear h1
    generalize xs.length = n at *
    generalize ys.length = n2 at *
    go_enter Tryd.func25, Tryd.ntmps25
    go_wp2_with fail
    refine HS.out.mono ?_
    rintro e w1 ⟨v, rfl, o1, b1⟩
    go_wp2_with fail
    go_ret2
    exact ⟨rfl, b1⟩
  · rw [show tabA xs ys = (tab36 xs ys, true) by unfold tabA; rw [h1]; rfl] at HS
    rw [show kindA xs ys = (kindV (tab36 xs ys), true) by unfold kindA; rw [h1]; rfl]
    have HR := Lib.hid (tab36_rng xs ys)
    have HL := Lib.hid (show (tab36 xs ys).length = 36 by simp [tab36])
    clear h1
    generalize tab36 xs ys = T at *
    have HMX := Lib.hid (mxTo_rng T (fun j => (HR.out j).2))
    have HMN := Lib.hid (mxTo_nonneg T)
    have HK := Lib.hid (show kindV T = 10 * mxTo T 36 + (cntTo T (mxTo T 36) 6 : Nat) from rfl)
    generalize kindV T = KV at *
    generalize xs.length = n at *
    generalize ys.length = n2 at *
    go_enter Tryd.func25, Tryd.ntmps25
    go_wp2_with fail
    refine HS.out.mono ?_
    rintro e w1 ⟨v, rfl, o1, b1⟩
    obtain ⟨A1, c1, rfl⟩ := o1.slice
    obtain ⟨b, o, rfl, hb0, _⟩ := o1.rds.at_ (j := 0) (by rw [HL.out]; decide)
    have HC := Lib.hid (fun j (hj : j < 36) => show w1.cell? ⟨b, o + j, none⟩ = some (.int .i64 (T.getD j 0)) by
      obtain ⟨b', o', e', _, h⟩ := o1.rds.at_ (j := j) (by rw [HL.out]; exact hj)
      cases e'
      exact h)
    have HB := Lib.hid b1
    have hl36 : ((T.length : Nat) : Int) = 36 := by rw [HL.out]; rfl
    generalize hnz : T.length = nz at *
    clear b1 o1 hnz HL
    go_wp2_with fail
    go_loopw [8, 9] (fun m i wr => ∃ k : Nat, k ≤ 36 ∧ i = .int .i64 k ∧ m = .int .i64 (mxTo T k) ∧ Hid (Below w1.heap.size w1 wr)) (fun _ i _ => 36 - (intOf i).toNat)
    case atStart => exact ⟨0, by omega, rfl, rfl, Lib.hid (Below.refl _ _)⟩
    case round =>
      obtain ⟨k, hk, rfl, rfl, hbl⟩ := hrel
      by_cases hlt : k < 36
      · have hk1 : (0 : Int) ≤ (k : Int) := by omega
        have hk2 : (k : Int) < 36 := by omega
        have hk3 : (k : Int) < (nz : Int) := by omega
        have hc := (hbl.out.cell (p := ⟨b, o + k, none⟩) hb0).trans (HC.out k hlt)
        have HN := Lib.hid (show mxTo T (k + 1) = max (mxTo T k) (T.getD k 0) from rfl)
        generalize T.getD k 0 = x at *
        generalize mxTo T k = m at *
        go_wp2_with fail
        go_roundw
        case rel => exact ⟨k + 1, by omega, by go_num, by rw [HN.out], hbl⟩
        case measure => simp [intOf]; omega
      · obtain rfl : k = 36 := by omega
        have hM1 := HMX.out 36
        have hM0 := HMN.out 36
        have HCL := Lib.hid (cntTo_le T (mxTo T 36))
        generalize mxTo T 36 = M at *
        go_wp2_with fail
        go_loopw [10, 11] (fun r i wr => ∃ p : Nat, p ≤ 6 ∧ i = .int .i64 p ∧ r = .int .i64 ((cntTo T M p : Nat) : Int) ∧ Hid (Below w1.heap.size w1 wr)) (fun _ i _ => 6 - (intOf i).toNat)
        case atStart => exact ⟨0, by omega, rfl, rfl, hbl⟩
        case round =>
          obtain ⟨p, hp, rfl, rfl, hbl⟩ := hrel
          have hc6 := HCL.out p
          by_cases hlt2 : p < 6
          · have hp1 : (0 : Int) ≤ (p : Int) := by omega
            have hp2 : (p : Int) < 6 := by omega
            have HCN := Lib.hid (show cntTo T M (p + 1) = cntTo T M p + if hasTo T M p 6 then 1 else 0 from rfl)
            generalize cntTo T M p = cn at *
            have hcn0 : (0 : Int) ≤ (cn : Int) := by omega
            have hcn1 : (cn : Int) ≤ 6 := by omega
            go_wp2_with fail
            go_loopw [12, 13] (fun h i wr => ∃ q : Nat, q ≤ 6 ∧ i = .int .i64 q ∧ h = .bool (hasTo T M p q) ∧ Hid (Below w1.heap.size w1 wr)) (fun _ i _ => 6 - (intOf i).toNat)
            case atStart => exact ⟨0, by omega, rfl, rfl, hbl⟩
            case round =>
              obtain ⟨q, hq, rfl, rfl, hbl⟩ := hrel
              by_cases hlt3 : q < 6
              · have hq1 : (0 : Int) ≤ (q : Int) := by omega
                have hq2 : (q : Int) < 6 := by omega
                have HHN := Lib.hid (show hasTo T M p (q + 1) = (hasTo T M p q || T.getD (6 * p + q) 0 == M) from rfl)
                have hc := (hbl.out.cell (p := ⟨b, o + (6 * p + q), none⟩) hb0).trans (HC.out (6 * p + q) (by omega))
                generalize T.getD (6 * p + q) 0 = x at *
                obtain ⟨n1, hn1⟩ : ∃ n1, 6 * p + q = n1 := ⟨_, rfl⟩
                have hw1 : IntKind.i64.wrap (6 * (p : Int)) = 6 * (p : Int) := by rw [IntKind.wrap_i64]; omega
                have hw3 : IntKind.i64.wrap (6 * (p : Int) + (q : Int)) = (n1 : Int) := by rw [IntKind.wrap_i64]; omega
                have hi1 : 6 * (p : Int) + (q : Int) = (n1 : Int) := by omega
                have hj1 : (0 : Int) ≤ (n1 : Int) := by omega
                have hj3 : (n1 : Int) < 36 := by omega
                have hj5 : (n1 : Int) < (nz : Int) := by omega
                rw [hn1] at hc
                clear hn1
                generalize hasTo T M p q = h0 at *
                rcases h0 with _ | _
                · rw [Bool.false_or] at HHN
                  by_cases hxm : x = M
                  · have hxb : (x == M) = true := by simpa using hxm
                    rw [hxb] at HHN
                    subst hxm
                    clear hxb
                    go_wp2_with fail
                    try go_quiet (fail)
                    go_wp2_with fail
                    go_roundw
                    case rel => first | exact ⟨q + 1, by omega, by go_num, by rw [HHN.out], hbl⟩ | exact ⟨q + 1, by omega, by go_num, by rw [HHN.out], Lib.hid (below_drewN hbl.out _)⟩
                    case measure => simp [intOf]; omega
                  · have hxb : (x == M) = false := by simpa using hxm
                    rw [hxb] at HHN
                    clear hxm
                    go_wp2_with fail
                    try go_quiet (fail)
                    go_wp2_with fail
                    go_roundw
                    case rel => first | exact ⟨q + 1, by omega, by go_num, by rw [HHN.out], hbl⟩ | exact ⟨q + 1, by omega, by go_num, by rw [HHN.out], Lib.hid (below_drewN hbl.out _)⟩
                    case measure => simp [intOf]; omega
                · rw [Bool.true_or] at HHN
                  go_wp2_with fail
                  try go_quiet (fail)
                  go_wp2_with fail
                  go_roundw
                  case rel => first | exact ⟨q + 1, by omega, by go_num, by rw [HHN.out], hbl⟩ | exact ⟨q + 1, by omega, by go_num, by rw [HHN.out], Lib.hid (below_drewN hbl.out _)⟩
                  case measure => simp [intOf]; omega
              · obtain rfl : q = 6 := by omega
                generalize hasTo T M p 6 = h0 at *
                rcases h0 with _ | _
                · go_wp2_with fail
                  go_roundw
                  case rel => exact ⟨p + 1, by omega, by go_num, by rw [HCN.out]; simp, hbl⟩
                  case measure => simp [intOf]; omega
                · go_wp2_with fail
                  go_roundw
                  case rel => exact ⟨p + 1, by omega, by go_num, by rw [HCN.out]; simp, hbl⟩
                  case measure => simp [intOf]; omega
          · obtain rfl : p = 6 := by omega
            generalize cntTo T M 6 = cn at *
            have hcn0 : (0 : Int) ≤ (cn : Int) := by omega
            have hcn1 : (cn : Int) ≤ 6 := by omega
            go_wp2_with fail
            go_ret2
            exact ⟨by rw [HK.out]; rfl, HB.out.trans (hbl.out.mono HB.out.size)⟩
end Go.Proofs.YtagniijhbiglaaaDoor
