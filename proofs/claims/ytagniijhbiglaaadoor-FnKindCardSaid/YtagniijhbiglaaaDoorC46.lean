/- Sextets of the model. -/
import Derived.Test.YtagniijhbiglaaaDoorQ7
import Derived.Test.YtagniijhbiglaaaDoorM23
namespace Go.Proofs.YtagniijhbiglaaaDoor
open Go.RowKit
set_option linter.unusedVariables false
attribute [local irreducible] octS cN octF syn

def sxA (a : Int) : List Int × Bool := if tetB a then (sxOf a, true) else ([], false)
def tab36 (a b : List Int) : List Int := (List.range 36).map fun (j : Nat) => tabE a b (j / 6) (j % 6)
def tabA (a b : List Int) : List Int × Bool := if sxB a && sxB b then (tab36 a b, true) else ([], false)
def sumA (a b : Int) : List Int × Bool := if tetB a && tetB b && decide (wt (andI a b) = 2) then (sxOf (xorI a b), true) else ([], false)
theorem sx_sum {a b : Int} (ha : Tet a) (hb : Tet b) (h2 : wt (andI a b) = 2) : Tet (xorI a b) := by
  have := wt_xor_i ha.1 hb.1
  have h4 := ha.2.2
  have h5 := hb.2.2
  exact ⟨xorI_nonneg _ _, xorI_le _ _ ha.2.1 hb.2.1, by omega⟩
theorem own1 (w : World) (a : Int) : Own (w.alloc (.cells #[.int .i64 a] 3)) w.heap.size (.slice (some ⟨w.heap.size, 0, none⟩) 1 1) [a] :=
  ⟨rfl, .inr ⟨w.heap.size, 1, #[.int .i64 a], rfl, Nat.le_refl _, heap_alloc_new w _, Nat.le_refl _, by unfold maxLen; omega, rfl, rfl⟩⟩
/-- The tetrads gathered so far. -/
def sxTo (a : Int) (k : Nat) : List Int := a :: ((oWith a).take k).map fun x => xorI x a
theorem sxTo_succ {a : Int} (k : Nat) (hk : k < (oWith a).length) : sxTo a (k + 1) = sxTo a k ++ [xorI ((oWith a).getD k 0) a] := by
  unfold sxTo
  rw [tk_succ _ k hk, List.map_append]
  rfl
theorem sxTo_all {a : Int} (ha : Tet a) : sxTo a 5 = ofSx a := by
  unfold sxTo ofSx
  rw [List.take_of_length_le (by rw [oWith_tet ha]; exact Nat.le_refl _)]
theorem sxTo_len {a : Int} (k : Nat) : (sxTo a k).length ≤ k + 1 := by
  unfold sxTo
  have := List.length_take_le k (oWith a)
  simp only [List.length_cons, List.length_map]
  omega
theorem oWith_at {a : Int} (k : Nat) (hk : k < (oWith a).length) : 0 ≤ (oWith a).getD k 0 ∧ (oWith a).getD k 0 ≤ 16777215 := by
  rw [← getD_at _ k hk]
  exact (oWith_mem.1 (List.getElem_mem _)).1.rng
set_option maxRecDepth 100000 in
set_option maxHeartbeats 4000000 in
theorem sSextetOf_calls (a : Int) (w : World) :
    Calls Tryd.prog 13 #[.int .i64 a] w (GotL w (sxA a).1 (sxA a).2) := by
  have HE := Lib.hid (own_empty w w.heap.size (Nat.le_refl _))
  rcases ha : wordB a with _ | _
  · have hn := (wordB_no a).1 ha
    rw [show sxA a = ([], false) by simp [sxA, tetB, ha]]
    clear ha
    go_enter Tryd.func13, Tryd.ntmps13
    go_wp2_with (go_at_call 48; refine (sWordValid_no a _ hn).mono ?_; rintro e w' ⟨rfl, rfl⟩)
    go_ret2
    exact ⟨_, rfl, HE.out, (Below.refl _ _).alloc (Nat.le_refl _) _⟩
  have wa := (wordB_iff a).1 ha
  by_cases h4 : wt a = 4
  · have hT : Tet a := ⟨wa.1, wa.2, h4⟩
    rw [show sxA a = (sxOf a, true) by simp [sxA, (tetB_iff a).2 hT]]
    have H4 := Lib.hid h4
    have HO := Lib.hid (own1 w a)
    have HL := Lib.hid (oWith_tet hT)
    have HALL := Lib.hid (sxTo_all hT)
    have HSX := Lib.hid (fun M h1 h2 => sortI_eq (L := ofSx a) (M := M) h1 h2)
    have HSL := Lib.hid (ofSx_len hT)
    have HSO := Lib.hid (show sortI (ofSx a) = sxOf a from rfl)
    clear h4 ha hT
    go_enter Tryd.func13, Tryd.ntmps13
    go_wp2_with (first
      | (go_at_call 48; refine (sWordValid_ok a _ wa.1 wa.2).mono ?_; rintro e w' ⟨rfl, rfl⟩)
      | (go_at_call 49; refine (l1Weight_calls a _).mono ?_; rintro e w' ⟨he, rfl⟩; rw [H4.out] at he; subst he))
    refine (l4With_calls a _ wa).mono ?_
    rintro e w1 ⟨v1, rfl, o1, b1⟩
    obtain ⟨A, c, rfl⟩ := o1.slice
    have hs1 : w.heap.size < w1.heap.size := by have := b1.size; simp at this; omega
    have HB := Lib.hid (((Below.refl w.heap.size w).alloc (Nat.le_refl _) (.cells #[.int .i64 a] 3)).trans (b1.mono (by simp)))
    have HO1 := Lib.hid (HO.out.below b1)
    have HR := Lib.hid o1.rds
    have HA := Lib.hid (show ∀ ad, A = some ad → w.heap.size < ad.block from fun ad h => by have := own_lo' o1 ad h; simp at this; omega)
    have HAU := Lib.hid (show ∀ ad, A = some ad → ad.block < w1.heap.size from fun ad h => by
      obtain ⟨b, o, e, hb, _⟩ := o1.rds.at_ (j := 0) (by rw [HL.out]; decide)
      rw [e] at h; cases h; exact hb)
    clear b1 o1 HO
    go_wp2_with fail
    go_loopw [4, 6] (fun v i wr => ∃ k : Nat, k ≤ 5 ∧ i = .int .i64 k ∧ Hid (Own wr w.heap.size v (sxTo a k)) ∧ Hid (Rds wr w1.heap.size .i64 A (oWith a)) ∧ Hid (∀ j, v.ownBlock = some j → j = w.heap.size ∨ w1.heap.size ≤ j) ∧ Hid (Below w.heap.size w wr) ∧ w1.heap.size ≤ wr.heap.size) (fun _ i _ => 5 - (intOf i).toNat)
    case atStart => exact ⟨0, by omega, rfl, HO1, HR, Lib.hid (fun j h => by simp [Value.ownBlock] at h; omega), HB, Nat.le_refl _⟩
    case round =>
      obtain ⟨k, hk, rfl, ho, hr, hj, hb, hz⟩ := hrel
      have hln : ((oWith a).length : Int) = 5 := by rw [HL.out]; rfl
      by_cases hlt : k < 5
      · have HS := Lib.hid (sxTo_succ (a := a) k (by rw [HL.out]; exact hlt))
        obtain ⟨b, o, rfl, hb1, hc⟩ := hr.out.at_ (j := k) (by rw [HL.out]; exact hlt)
        have hx := oWith_at (a := a) k (by rw [HL.out]; exact hlt)
        have hl := sxTo_len (a := a) k
        have hq1 : (0 : Int) ≤ (k : Int) := by omega
        have hq2 : (k : Int) < 5 := by omega
        generalize (oWith a).getD k 0 = x at *
        have hxx : bits .xor .i64 x a = xorI x a := xor_i64 _ _ hx.1 (by omega) wa.1 (by have := wa.2; omega)
        generalize sxTo a k = L at *
        generalize (oWith a).length = n5 at *
        go_wp2_with (at_builtin; refine wpList_pushAt rfl _ _ rfl _ w.heap.size _ _ _ _ rfl rfl (by exact ho.out) (by omega) (by omega) ?_; intro v2 w2 ho2 hb2 hg2 hat)
        go_roundw
        case rel =>
          refine ⟨k + 1, by omega, by go_num, by rw [HS.out]; exact Lib.hid ho2, Lib.hid (hr.out.apart hg2 hz fun ad h e => ?_), Lib.hid (fun j h => ?_), Lib.hid (hb.out.trans hb2), Nat.le_trans hz hg2.size⟩
          · have h1 := HA.out ad h
            have h2 := HAU.out ad h
            rcases hj.out _ e with h3 | h3 <;> omega
          · rcases hat j h with h1 | h1
            · exact hj.out j h1
            · exact .inr (by omega)
        case measure => simp [intOf]; omega
      · obtain rfl : k = 5 := by omega
        rw [HALL.out] at ho
        obtain ⟨A2, c2, rfl⟩ := ho.out.slice
        obtain ⟨q1, q2⟩ := own_caps ho.out
        generalize (oWith a).length = n5 at *
        generalize ofSx a = L at *
        go_wp2_with fail
        refine (l4Sort_calls L.length L A2 c2 wr rfl (by have := HSL.out; omega) q1 q2 ho.out.rds).mono ?_
        rintro e w3 ⟨A', c', ys, rfl, p1, s1, l1, m1, r1, a1, b3, of⟩
        have hys := HSX.out ys p1 s1
        have ow := of (by have := HSL.out; omega)
        have hB3 := hb.out.trans (b3.mono hb.out.size)
        go_wp2_with fail
        go_ret2
        rw [hys, HSO.out] at ow
        exact ⟨_, rfl, ow.weak hb.out.size, hB3⟩
  · rw [show sxA a = ([], false) by simp [sxA, tetB, h4]]
    have h41 : (wt a == 4) = false := by simpa using h4
    clear h4 ha
    generalize hq : wt a = q at *
    have HQ := Lib.hid hq
    clear hq
    go_enter Tryd.func13, Tryd.ntmps13
    go_wp2_with (first
      | (go_at_call 48; refine (sWordValid_ok a _ wa.1 wa.2).mono ?_; rintro e w' ⟨rfl, rfl⟩)
      | (go_at_call 49; refine (l1Weight_calls a _).mono ?_; rintro e w' ⟨he, rfl⟩; rw [HQ.out] at he; subst he))
    go_ret2
    exact ⟨_, rfl, HE.out, (Below.refl _ _).alloc (Nat.le_refl _) _⟩
end Go.Proofs.YtagniijhbiglaaaDoor
