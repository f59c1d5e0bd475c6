/- LineSum and LineIn, of the program and of the model. -/
import Derived.Test.YtepaaijlkimmeaaDoorC139
import Derived.Test.YtepaaijlkimmeaaDoorQ4
namespace Go.Proofs.YtepaaijlkimmeaaDoor
open Go.RowKit
set_option linter.unusedVariables false
attribute [local irreducible] cN syn

def wdL (n : Int) : Bool := decide (0 ≤ n ∧ n ≤ 16777215)
def lsI (n : Int) : Int × Bool := if wdL n then ((lsN n.toNat : Nat), true) else (0, false)
def liI (n : Int) : Bool := wdL n && inLN n.toNat
theorem wdL_no {n : Int} (h : n < 0 ∨ 16777215 < n) : wdL n = false := by simp only [wdL, decide_eq_false_iff_not]; omega
theorem wdL_nat (W : Nat) (h : W < 16777216) : wdL (W : Int) = true := by simp [wdL]; omega
theorem w_orL (n : Int) : (∃ W : Nat, n = (W : Int) ∧ W < 16777216) ∨ (n < 0 ∨ 16777215 < n) := by
  by_cases h : 0 ≤ n ∧ n ≤ 16777215
  · exact .inl ⟨n.toNat, by omega, by omega⟩
  · exact .inr (by omega)
theorem lsI_val (W : Nat) (h : W < 16777216) : lsI (W : Int) = (((lsN W : Nat) : Int), true) := by unfold lsI; rw [wdL_nat W h, if_pos rfl, Int.toNat_natCast]
theorem liI_val (W : Nat) (h : W < 16777216) : liI (W : Int) = (lsN W == W) := by unfold liI inLN; rw [wdL_nat W h, Bool.true_and, Int.toNat_natCast]
theorem lsI_no {n : Int} (h : n < 0 ∨ 16777215 < n) : lsI n = (0, false) := by unfold lsI; rw [wdL_no h]; rfl
theorem liI_no {n : Int} (h : n < 0 ∨ 16777215 < n) : liI n = false := by unfold liI; rw [wdL_no h]; rfl
theorem iLineSum_calls (n : Int) (w : World) (hT : TabB w) :
    Calls Tryd.prog 19 #[.int .i64 n] w fun e w' => e = .returned (.tuple #[.int .i64 (lsI n).1, .bool (lsI n).2]) ∧ Below w.heap.size w w' := by
  rcases w_orL n with ⟨W, rfl, hW⟩ | h
  · rw [lsI_val W hW]
    have hl := lsN_lt W
    have H1 := Lib.hid (fun V => wordFrom_ok (W : Int) V (by omega) (by omega))
    have H2 := Lib.hid (fun V hV => lineSum_calls W hW V hV)
    dsimp only
    generalize lsN W = s at *
    go_enter Tryd.func19, Tryd.ntmps19
    go_wp2_with fail
    refine (H1.out _).mono ?_
    rintro e w' ⟨rfl, rfl⟩
    go_wp2_with fail
    refine (H2.out _ hT).mono ?_
    rintro e w2 ⟨rfl, b2⟩
    go_wp2_with fail
    go_ret2
    exact ⟨rfl, b2⟩
  · rw [lsI_no h]
    go_enter Tryd.func19, Tryd.ntmps19
    go_wp2_with fail
    refine (wordFrom_no n _ h).mono ?_
    rintro e w' ⟨rfl, rfl⟩
    go_wp2_with fail
    go_ret2
    exact ⟨rfl, Below.refl _ _⟩
theorem inLine_calls (W : Nat) (hW : W < 16777216) (w : World) (hT : TabB w) :
    Calls Tryd.prog 36 #[.int .u32 (W : Int)] w fun e w' => e = .returned (.bool (lsN W == W)) ∧ Below w.heap.size w w' := by
  have H2 := Lib.hid (fun V hV => lineSum_calls W hW V hV)
  rw [show (lsN W == W) = (((lsN W : Nat) : Int) == (W : Int)) by rw [Bool.eq_iff_iff, beq_iff_eq, beq_iff_eq]; omega]
  generalize ((lsN W : Nat) : Int) = s at *
  go_enter Tryd.func36, Tryd.ntmps36
  go_wp2_with fail
  refine (H2.out _ hT).mono ?_
  rintro e w2 ⟨rfl, b2⟩
  go_wp2_with fail
  go_ret
  exact ⟨rfl, b2⟩
theorem iLineIn_calls (n : Int) (w : World) (hT : TabB w) :
    Calls Tryd.prog 14 #[.int .i64 n] w fun e w' => e = .returned (.bool (liI n)) ∧ Below w.heap.size w w' := by
  rcases w_orL n with ⟨W, rfl, hW⟩ | h
  · rw [liI_val W hW]
    have H1 := Lib.hid (fun V => wordFrom_ok (W : Int) V (by omega) (by omega))
    have H2 := Lib.hid (fun V hV => inLine_calls W hW V hV)
    generalize (lsN W == W) = b at *
    go_enter Tryd.func14, Tryd.ntmps14
    go_wp2_with fail
    refine (H1.out _).mono ?_
    rintro e w' ⟨rfl, rfl⟩
    go_wp2_with fail
    refine (H2.out _ hT).mono ?_
    rintro e w2 ⟨rfl, b2⟩
    go_wp2_with fail
    go_ret
    exact ⟨rfl, b2⟩
  · rw [liI_no h]
    go_enter Tryd.func14, Tryd.ntmps14
    go_wp2_with fail
    refine (wordFrom_no n _ h).mono ?_
    rintro e w' ⟨rfl, rfl⟩
    go_wp2_with fail
    go_ret
    exact ⟨rfl, Below.refl _ _⟩

/-- The sum of the generators of the first k places. -/
def lsTo (W : Nat) : Nat → Nat
  | 0 => 0
  | k + 1 => if W.testBit k then lsTo W k ^^^ gL.getD k 0 else lsTo W k
theorem lsTo_mod (W k : Nat) : lsTo W k = lsN (W % 2 ^ k) := by
  induction k with
  | zero =>
    rw [Nat.pow_zero, Nat.mod_one]
    exact (lin_zero gL).symm
  | succ k ih =>
    rw [mod_step, lsN_xor, ← ih]
    show (if W.testBit k then lsTo W k ^^^ gL.getD k 0 else lsTo W k) = _
    by_cases h : W.testBit k = true
    · rw [if_pos h, if_pos h, lsN_gen]
    · rw [if_neg h, if_neg h, show lsN 0 = 0 from lin_zero gL, Nat.xor_zero]
theorem lsTo_all (W : Nat) (h : W < 16777216) : lsTo W 23 = lsN W := by rw [lsTo_mod]; exact lsN_mod W h
theorem lsTo_lt (W k : Nat) : lsTo W k < 16777216 := by rw [lsTo_mod]; exact lsN_lt _
theorem bitI_tbL (W k : Nat) : bitI (W : Int) (k : Int) = if W.testBit k then 1 else 0 := bitI_nat W k
set_option maxHeartbeats 1000000 in
theorem sLineSum_calls (n : Int) (w : World) :
    Calls Tryd.prog 20 #[.int .i64 n] w fun e w' => e = .returned (.tuple #[.int .i64 (lsI n).1, .bool (lsI n).2]) ∧ Below w.heap.size w w' := by
  rcases w_orL n with ⟨W, rfl, hW⟩ | h
  · rw [lsI_val W hW, ← lsTo_all W hW]
    dsimp only
    have H1 := Lib.hid (fun V => sWordValid_ok (W : Int) V (by omega) (by omega))
    have HB := Lib.hid (fun (k : Nat) (hk : k < 23) V => l1Bit_calls (W : Int) (k : Int) V (by omega) (by omega))
    have HG := Lib.hid (fun (k : Nat) (hk : k < 23) V => l8Word_calls ⟨k, hk⟩ V)
    have HR := Lib.hid (fun k => lsTo_lt W k)
    have HS := Lib.hid (fun k => show lsTo W (k + 1) = if W.testBit k then lsTo W k ^^^ gL.getD k 0 else lsTo W k from rfl)
    have HT := Lib.hid (fun k => bitI_tbL W k)
    go_enter Tryd.func20, Tryd.ntmps20
    go_wp2_with fail
    refine (H1.out _).mono ?_
    rintro e w' ⟨rfl, rfl⟩
    go_wp2_with fail
    go_loopw [4, 5] (fun v x wr => ∃ k : Nat, k ≤ 23 ∧ v = .int .i64 (lsTo W k : Nat) ∧ x = .int .i64 (k : Int) ∧ wr = w) (fun _ x _ => 23 - (intOf x).toNat)
    case atStart => exact ⟨0, by omega, rfl, rfl, rfl⟩
    case round =>
      obtain ⟨k, hk, rfl, rfl, rfl⟩ := hrel
      by_cases hlt : k < 23
      · have hb := HB.out k hlt
        have hg := HG.out k hlt
        rw [show (((⟨k, hlt⟩ : R23).val : Nat) : Int) = (k : Int) from rfl] at hg
        have hr := HR.out k
        have ht := HT.out k
        have hs := HS.out k
        have gr := gL_rng ⟨k, by omega⟩
        have gr2 : gL.getD k 0 < 16777216 := gr
        have k0 : 0 ≤ (k : Int) := by omega
        have k1 : (k : Int) < 23 := by omega
        clear gr
        rcases hbit : W.testBit k with _ | _
        · rw [hbit] at ht hs
          simp only [Bool.false_eq_true, if_false] at ht hs
          rw [ht] at hb
          have HN := Lib.hid hs
          have H2 := Lib.hid hb
          clear hb hg ht hs hbit
          generalize lsTo W k = s at *
          go_wp2_with fail
          refine (H2.out _).mono ?_
          rintro e w' ⟨rfl, rfl⟩
          go_wp2_with fail
          go_roundw
          case rel => exact ⟨k + 1, by omega, by rw [HN.out], by go_num, by first | exact rfl | trivial⟩
          case measure => simp [intOf]; omega
        · rw [hbit] at ht hs
          simp only [if_true] at ht hs
          rw [ht] at hb
          have hx := xor_i64 ((lsTo W k : Nat) : Int) ((gL.getD k 0 : Nat) : Int) (by omega) (by omega) (by omega) (by omega)
          have HN := Lib.hid (show xorI ((lsTo W k : Nat) : Int) ((gL.getD k 0 : Nat) : Int) = ((lsTo W (k + 1) : Nat) : Int) by rw [hs]; unfold xorI; simp)
          rw [HN.out] at hx
          have H2 := Lib.hid hb
          have H3 := Lib.hid hg
          clear hb hg ht hs hbit
          generalize ((lsTo W k : Nat) : Int) = s at *
          generalize ((gL.getD k 0 : Nat) : Int) = g at *
          go_wp2_with fail
          refine (H2.out _).mono ?_
          rintro e w' ⟨rfl, rfl⟩
          go_wp2_with fail
          refine (H3.out _).mono ?_
          rintro e w' ⟨rfl, rfl⟩
          go_wp2_with fail
          go_roundw
          case rel => exact ⟨k + 1, by omega, rfl, by go_num, by first | exact rfl | trivial⟩
          case measure => simp [intOf]; omega
      · obtain rfl : k = 23 := by omega
        clear HB HG HR HS HT
        go_wp2_with fail
        go_ret2
        exact ⟨rfl, Below.refl _ _⟩
  · rw [lsI_no h]
    go_enter Tryd.func20, Tryd.ntmps20
    go_wp2_with fail
    refine (sWordValid_no n _ h).mono ?_
    rintro e w' ⟨rfl, rfl⟩
    go_wp2_with fail
    go_ret2
    exact ⟨rfl, Below.refl _ _⟩
/-- The first k generators have each an even number of places in common. -/
def liTo (W k : Nat) : Bool := (List.range k).all fun i => parN 24 W (gL.getD i 0) == 0
theorem liTo_all (W : Nat) (h : W < 16777216) : (lsN W == W) = liTo W 23 := by
  rw [Bool.eq_iff_iff]
  unfold liTo
  rw [List.all_eq_true]
  refine (line_dual W h).trans ⟨fun hh i hi => ?_, fun hh i hi => ?_⟩
  · simpa using hh i (List.mem_range.1 hi)
  · simpa using hh i (List.mem_range.2 hi)
theorem par_wt (W g : Nat) : wt (andI (W : Int) (g : Int)) % 2 = ((parN 24 W g : Nat) : Int) := by
  unfold andI
  rw [Int.toNat_natCast, Int.toNat_natCast, wt_pop]
  unfold parN pop
  omega
theorem liTo_no (W k : Nat) (hk : k < 23) (h : parN 24 W (gL.getD k 0) = 1) : liTo W 23 = false := by
  rw [← Bool.not_eq_true]
  unfold liTo
  rw [List.all_eq_true]
  intro hh
  have := hh k (List.mem_range.2 hk)
  rw [h] at this
  cases this
set_option maxHeartbeats 1000000 in
theorem sLineIn_calls (n : Int) (w : World) :
    Calls Tryd.prog 22 #[.int .i64 n] w fun e w' => e = .returned (.bool (liI n)) ∧ Below w.heap.size w w' := by
  rcases w_orL n with ⟨W, rfl, hW⟩ | h
  · rw [liI_val W hW, liTo_all W hW]
    have H1 := Lib.hid (fun V => sWordValid_ok (W : Int) V (by omega) (by omega))
    have HG := Lib.hid (fun (k : Nat) (hk : k < 23) V => l8Word_calls ⟨k, hk⟩ V)
    have HN := Lib.hid (fun k (hk : k < 23) => liTo_no W k hk)
    have HP := Lib.hid (fun g => par_wt W g)
    have HA := Lib.hid (show (∀ i, i < 23 → parN 24 W (gL.getD i 0) = 0) → liTo W 23 = true from fun hh => by
      unfold liTo
      rw [List.all_eq_true]
      intro i hi
      simpa using hh i (List.mem_range.1 hi))
    have HLT := Lib.hid (fun k => show parN 24 W (gL.getD k 0) < 2 from Nat.mod_lt _ (by decide))
    generalize liTo W 23 = b at *
    go_enter Tryd.func22, Tryd.ntmps22
    go_wp2_with fail
    refine (H1.out _).mono ?_
    rintro e w' ⟨rfl, rfl⟩
    go_wp2_with fail
    go_loopw [3] (fun x wr => ∃ k : Nat, k ≤ 23 ∧ x = .int .i64 (k : Int) ∧ wr = w ∧ Hid (∀ i, i < k → parN 24 W (gL.getD i 0) = 0)) (fun x _ => 23 - (intOf x).toNat)
    case atStart => exact ⟨0, by omega, rfl, rfl, Lib.hid (fun i hi => absurd hi (Nat.not_lt_zero i))⟩
    case round =>
      obtain ⟨k, hk, rfl, rfl, hno⟩ := hrel
      by_cases hlt : k < 23
      · have hg := HG.out k hlt
        rw [show (((⟨k, hlt⟩ : R23).val : Nat) : Int) = (k : Int) from rfl] at hg
        have hn := HN.out k hlt
        have gr := gL_rng ⟨k, by omega⟩
        have gr2 : gL.getD k 0 < 16777216 := gr
        have hp := HP.out (gL.getD k 0)
        have k0 : 0 ≤ (k : Int) := by omega
        have k1 : (k : Int) < 23 := by omega
        have hax := and_i64 (W : Int) ((gL.getD k 0 : Nat) : Int) (by omega) (by omega) (by omega) (by omega)
        have hwr := wt_range (andI (W : Int) ((gL.getD k 0 : Nat) : Int))
        have hlt2 := HLT.out k
        by_cases hpar : parN 24 W (gL.getD k 0) = 1
        · have hb := hn hpar
          subst hb
          rw [hpar] at hp
          have hp2 : (wt (andI (W : Int) ((gL.getD k 0 : Nat) : Int)) % 2 == 1) = true := by rw [hp]; rfl
          have H2 := Lib.hid (fun V => l1Weight_calls (andI (W : Int) ((gL.getD k 0 : Nat) : Int)) V)
          have H3 := Lib.hid hg
          clear hg hn hpar hp hno hlt2
          generalize wt (andI (W : Int) ((gL.getD k 0 : Nat) : Int)) = q at *
          generalize andI (W : Int) ((gL.getD k 0 : Nat) : Int) = m at *
          generalize ((gL.getD k 0 : Nat) : Int) = g at *
          go_wp2_with fail
          refine (H3.out _).mono ?_
          rintro e w' ⟨rfl, rfl⟩
          go_wp2_with fail
          refine (H2.out _).mono ?_
          rintro e w' ⟨rfl, rfl⟩
          go_wp2_with fail
          go_ret
          exact ⟨rfl, Below.refl _ _⟩
        · have hz : parN 24 W (gL.getD k 0) = 0 := by omega
          have hno2 : Hid (∀ i, i < k + 1 → parN 24 W (gL.getD i 0) = 0) := Lib.hid (fun i hi => by
            by_cases e : i = k
            · rw [e]; exact hz
            · exact hno.out i (by omega))
          rw [hz] at hp
          have hp2 : (wt (andI (W : Int) ((gL.getD k 0 : Nat) : Int)) % 2 == 1) = false := by rw [hp]; rfl
          have H2 := Lib.hid (fun V => l1Weight_calls (andI (W : Int) ((gL.getD k 0 : Nat) : Int)) V)
          have H3 := Lib.hid hg
          clear hg hn hpar hp hno hlt2 hz
          generalize wt (andI (W : Int) ((gL.getD k 0 : Nat) : Int)) = q at *
          generalize andI (W : Int) ((gL.getD k 0 : Nat) : Int) = m at *
          generalize ((gL.getD k 0 : Nat) : Int) = g at *
          go_wp2_with fail
          refine (H3.out _).mono ?_
          rintro e w' ⟨rfl, rfl⟩
          go_wp2_with fail
          refine (H2.out _).mono ?_
          rintro e w' ⟨rfl, rfl⟩
          go_wp2_with fail
          go_roundw
          case rel => exact ⟨k + 1, by omega, by go_num, by first | exact rfl | trivial, hno2⟩
          case measure => simp [intOf]; omega
      · obtain rfl : k = 23 := by omega
        have hb := HA.out hno.out
        subst hb
        clear hno HN HP HA HLT HG
        go_wp2_with fail
        go_ret
        exact ⟨rfl, Below.refl _ _⟩
  · rw [liI_no h]
    go_enter Tryd.func22, Tryd.ntmps22
    go_wp2_with fail
    refine (sWordValid_no n _ h).mono ?_
    rintro e w' ⟨rfl, rfl⟩
    go_wp2_with fail
    go_ret
    exact ⟨rfl, Below.refl _ _⟩
end Go.Proofs.YtepaaijlkimmeaaDoor
