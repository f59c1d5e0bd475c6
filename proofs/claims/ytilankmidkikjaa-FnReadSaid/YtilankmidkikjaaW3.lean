/- The walks of the promises of chapter 1 on plain words. -/
import Derived.Test.YtilankmidkikjaaC5
import Derived.Test.YtilankmidkikjaaC9
namespace Go.Proofs.Ytilankmidkikjaa
open Go.RowKit
set_option linter.unusedVariables false

theorem IsRow.bytes {w : World} {a : Option Addr} {len cap : Nat} {zs : List Int} (h : IsRow .u8 w a len cap zs) :
    ∃ bs : List Int, bs.length = len ∧ Rds w w.heap.size .u8 a bs ∧ bs.length ≤ cap ∧ cap ≤ maxLen ∧ ∀ i, 0 ≤ bs.getD i 0 ∧ bs.getD i 0 ≤ 255 := by
  obtain ⟨h1, h2, h3⟩ := h.rds
  refine ⟨zs.take len, h2, h1, ?_, ?_, ?_⟩
  · rcases h with ⟨rfl, rfl, rfl, rfl⟩ | ⟨x, rfl, h1, _⟩
    · simp
    · simp; omega
  · rcases h with ⟨rfl, rfl, rfl, rfl⟩ | ⟨x, rfl, _, h2, _⟩
    · simp
    · exact h2
  · intro i
    by_cases hi : i < (zs.take len).length
    · have hm : (zs.take len).getD i 0 ∈ zs.take len := by
        rw [List.getD_eq_getElem?_getD, List.getElem?_eq_getElem hi]
        exact List.getElem_mem hi
      have := h3 _ hm
      exact bounds_u8 this
    · rw [List.getD_eq_getElem?_getD, List.getElem?_eq_none (by omega)]; simp

theorem xorI_self (a : Int) : xorI a a = 0 := by simp [xorI]
theorem xorI_zero (a : Int) (h : 0 ≤ a) : xorI a 0 = a := by unfold xorI; simp; omega
theorem xorI_comm (a b : Int) : xorI a b = xorI b a := by unfold xorI; rw [Nat.xor_comm]
theorem andI_comm (a b : Int) : andI a b = andI b a := by unfold andI; rw [Nat.and_comm]
theorem toNat_xorI (a b : Int) : (xorI a b).toNat = a.toNat ^^^ b.toNat := by simp [xorI]
theorem toNat_andI (a b : Int) : (andI a b).toNat = a.toNat &&& b.toNat := by simp [andI]
theorem toNat_lessI (a b : Int) : (lessI a b).toNat = a.toNat ^^^ (a.toNat &&& b.toNat) := by simp [lessI]
theorem meet_less (a b : Int) (h : 0 ≤ a) : xorI (andI a b) (lessI a b) = a := by
  unfold xorI
  rw [toNat_andI, toNat_lessI]
  have : (a.toNat &&& b.toNat) ^^^ (a.toNat ^^^ (a.toNat &&& b.toNat)) = a.toNat := by
    apply Nat.eq_of_testBit_eq
    intro i
    simp only [Nat.testBit_xor, Nat.testBit_and]
    cases a.toNat.testBit i <;> cases b.toNat.testBit i <;> rfl
  rw [this]; omega
theorem less_meet (a b : Int) : andI (lessI a b) b = 0 := by
  unfold andI
  rw [toNat_lessI]
  have : (a.toNat ^^^ (a.toNat &&& b.toNat)) &&& b.toNat = 0 := by
    apply Nat.eq_of_testBit_eq
    intro i
    simp only [Nat.testBit_xor, Nat.testBit_and, Nat.zero_testBit]
    cases a.toNat.testBit i <;> cases b.toNat.testBit i <;> rfl
  rw [this]; rfl
theorem less_meet' (a b : Int) : andI (lessI a b) a = lessI a b := by
  unfold andI lessI
  rw [Int.toNat_natCast]
  have : (a.toNat ^^^ (a.toNat &&& b.toNat)) &&& a.toNat = a.toNat ^^^ (a.toNat &&& b.toNat) := by
    apply Nat.eq_of_testBit_eq
    intro i
    simp only [Nat.testBit_xor, Nat.testBit_and]
    cases a.toNat.testBit i <;> cases b.toNat.testBit i <;> rfl
  rw [this]
theorem bit_and (a b q : Int) (hq : 0 ≤ q) : bitI (andI a b) q = if bitI a.toNat q = 1 ∧ bitI b.toNat q = 1 then 1 else 0 := by
  obtain ⟨n, rfl⟩ := Int.eq_ofNat_of_zero_le hq
  unfold andI
  rw [bitI_nat, bitI_nat, bitI_nat, Nat.testBit_and]
  cases a.toNat.testBit n <;> cases b.toNat.testBit n <;> simp
theorem wtTo_xor (a b : Int) (ha : 0 ≤ a) (hb : 0 ≤ b) (n : Nat) : wtTo (xorI a b) n = wtTo a n + wtTo b n - 2 * wtTo (andI a b) n := by
  induction n with
  | zero => rfl
  | succ n ih =>
    simp only [wtTo]
    rw [ih, bit_xor a b n ha hb (by omega), bit_and a b n (by omega), Int.toNat_of_nonneg ha, Int.toNat_of_nonneg hb]
    rcases bitI_01 a n with h1 | h1 <;> rcases bitI_01 b n with h2 | h2 <;> simp [h1, h2] <;> omega
set_option maxHeartbeats 1000000 in
theorem walk_FnWord (a0 : Option Addr) (len0 cap0 : Nat) (z0 : List Int) (w : World) (w0 : IsRow .u8 w a0 len0 cap0 z0) :
    Calls Try.prog 3 #[.slice a0 len0 cap0] w fun e w' => e = .returned (.bool true) ∧ Below w.heap.size w w' := by
  obtain ⟨bs, rfl, hr, hc, hm, hv⟩ := w0.bytes
  have hm' := hm
  unfold maxLen at hm'
  by_cases hbig : 1048576 < bs.length
  · go_enter Try.func3, Try.ntmps3
    go_wp2_with fail
    go_ret
    exact ⟨rfl, Below.refl _ _⟩
  · have hbig' : bs.length ≤ 1048576 := by omega
    go_enter Try.func3, Try.ntmps3
    go_wp2_with fail
    refine (DrawWordValid_calls _ _ bs _ hr hc hm hv).mono ?_
    rintro e w1 ⟨a, rfl, a0, a1, b1⟩
    rcases isW_or a with h | h
    · have h0 : IsW 0 := ⟨by omega, by omega⟩
      have x1 := xorI_self a
      have x2 := xorI_zero a h.1
      go_wp2_with fail
      refine (iWordValid_ok _ _ h).mono ?_
      rintro e w' ⟨rfl, rfl⟩
      go_wp2_with fail
      refine (sWordValid_ok _ _ h.1 h.2).mono ?_
      rintro e w' ⟨rfl, rfl⟩
      go_wp2_with fail
      refine (iWordAdd_ok _ _ _ h h).mono ?_
      rintro e w' ⟨rfl, rfl⟩
      rw [x1]
      go_wp2_with fail
      refine (iWordAdd_ok _ _ _ h h0).mono ?_
      rintro e w' ⟨rfl, rfl⟩
      rw [x2]
      go_wp2_with fail
      go_ret
      exact ⟨rfl, b1⟩
    · go_wp2_with fail
      refine (iWordValid_no _ _ h).mono ?_
      rintro e w' ⟨rfl, rfl⟩
      go_wp2_with fail
      refine (sWordValid_no _ _ h).mono ?_
      rintro e w' ⟨rfl, rfl⟩
      go_wp2_with fail
      go_ret
      exact ⟨rfl, b1⟩
set_option maxHeartbeats 1000000 in
theorem walk_FnMeet (a0 : Option Addr) (len0 cap0 : Nat) (z0 : List Int) (w : World) (w0 : IsRow .u8 w a0 len0 cap0 z0) :
    Calls Try.prog 5 #[.slice a0 len0 cap0] w fun e w' => e = .returned (.bool true) ∧ Below w.heap.size w w' := by
  obtain ⟨bs, rfl, hr, hc, hm, hv⟩ := w0.bytes
  have hm' := hm
  unfold maxLen at hm'
  by_cases hbig : 1048576 < bs.length
  · go_enter Try.func5, Try.ntmps5
    go_wp2_with fail
    go_ret
    exact ⟨rfl, Below.refl _ _⟩
  · have hbig' : bs.length ≤ 1048576 := by omega
    go_enter Try.func5, Try.ntmps5
    go_wp2_with fail
    refine (DrawWordMeet_calls _ _ bs _ hr hc hm hv).mono ?_
    rintro e w1 ⟨a, b, rfl, b1⟩
    by_cases h : NoW a ∨ NoW b
    · go_wp2_with fail
      refine (iWordMeet_no _ _ _ h).mono ?_
      rintro e w' ⟨rfl, rfl⟩
      go_wp2_with fail
      refine (sWordMeet_no _ _ _ h).mono ?_
      rintro e w' ⟨rfl, rfl⟩
      go_wp2_with fail
      go_ret
      exact ⟨rfl, b1⟩
    · have ha : IsW a := (isW_or a).resolve_right (fun x => h (.inl x))
      have hb : IsW b := (isW_or b).resolve_right (fun x => h (.inr x))
      clear h
      go_wp2_with fail
      refine (iWordMeet_ok _ _ _ ha hb).mono ?_
      rintro e w' ⟨rfl, rfl⟩
      go_wp2_with fail
      refine (sWordMeet_ok _ _ _ ha hb).mono ?_
      rintro e w' ⟨rfl, rfl⟩
      go_wp2_with fail
      refine (iWordMeet_ok _ _ _ hb ha).mono ?_
      rintro e w' ⟨rfl, rfl⟩
      rw [andI_comm b a]
      go_wp2_with fail
      refine (iWordLess_ok _ _ _ ha hb).mono ?_
      rintro e w' ⟨rfl, rfl⟩
      go_wp2_with fail
      refine (iWordAdd_ok _ _ _ ⟨andI_nonneg a b, andI_le a b hb.2⟩ ⟨lessI_nonneg a b, lessI_le a b ha.2⟩).mono ?_
      rintro e w' ⟨rfl, rfl⟩
      rw [meet_less a b ha.1]
      go_wp2_with fail
      go_ret
      exact ⟨rfl, b1⟩
set_option maxHeartbeats 1000000 in
theorem walk_FnLess (a0 : Option Addr) (len0 cap0 : Nat) (z0 : List Int) (w : World) (w0 : IsRow .u8 w a0 len0 cap0 z0) :
    Calls Try.prog 6 #[.slice a0 len0 cap0] w fun e w' => e = .returned (.bool true) ∧ Below w.heap.size w w' := by
  obtain ⟨bs, rfl, hr, hc, hm, hv⟩ := w0.bytes
  have hm' := hm
  unfold maxLen at hm'
  by_cases hbig : 1048576 < bs.length
  · go_enter Try.func6, Try.ntmps6
    go_wp2_with fail
    go_ret
    exact ⟨rfl, Below.refl _ _⟩
  · have hbig' : bs.length ≤ 1048576 := by omega
    go_enter Try.func6, Try.ntmps6
    go_wp2_with fail
    refine (DrawWordLess_calls _ _ bs _ hr hc hm hv).mono ?_
    rintro e w1 ⟨a, b, rfl, b1⟩
    by_cases h : NoW a ∨ NoW b
    · go_wp2_with fail
      refine (iWordLess_no _ _ _ h).mono ?_
      rintro e w' ⟨rfl, rfl⟩
      go_wp2_with fail
      refine (sWordLess_no _ _ _ h).mono ?_
      rintro e w' ⟨rfl, rfl⟩
      go_wp2_with fail
      go_ret
      exact ⟨rfl, b1⟩
    · have ha : IsW a := (isW_or a).resolve_right (fun x => h (.inl x))
      have hb : IsW b := (isW_or b).resolve_right (fun x => h (.inr x))
      clear h
      go_wp2_with fail
      refine (iWordLess_ok _ _ _ ha hb).mono ?_
      rintro e w' ⟨rfl, rfl⟩
      go_wp2_with fail
      refine (sWordLess_ok _ _ _ ha hb).mono ?_
      rintro e w' ⟨rfl, rfl⟩
      go_wp2_with fail
      refine (iWordMeet_ok _ _ _ ⟨lessI_nonneg a b, lessI_le a b ha.2⟩ hb).mono ?_
      rintro e w' ⟨rfl, rfl⟩
      rw [less_meet a b]
      go_wp2_with fail
      refine (iWordMeet_ok _ _ _ ⟨lessI_nonneg a b, lessI_le a b ha.2⟩ ha).mono ?_
      rintro e w' ⟨rfl, rfl⟩
      rw [less_meet' a b]
      go_wp2_with fail
      go_ret
      exact ⟨rfl, b1⟩
set_option maxHeartbeats 1000000 in
theorem walk_FnAdd (a0 : Option Addr) (len0 cap0 : Nat) (z0 : List Int) (w : World) (w0 : IsRow .u8 w a0 len0 cap0 z0) :
    Calls Try.prog 4 #[.slice a0 len0 cap0] w fun e w' => e = .returned (.bool true) ∧ Below w.heap.size w w' := by
  obtain ⟨bs, rfl, hr, hc, hm, hv⟩ := w0.bytes
  have hm' := hm
  unfold maxLen at hm'
  by_cases hbig : 1048576 < bs.length
  · go_enter Try.func4, Try.ntmps4
    go_wp2_with fail
    go_ret
    exact ⟨rfl, Below.refl _ _⟩
  · have hbig' : bs.length ≤ 1048576 := by omega
    go_enter Try.func4, Try.ntmps4
    go_wp2_with fail
    refine (DrawWordAdd_calls _ _ bs _ hr hc hm hv).mono ?_
    rintro e w1 ⟨a, b, rfl, b1⟩
    by_cases h : NoW a ∨ NoW b
    · go_wp2_with fail
      refine (iWordAdd_no _ _ _ h).mono ?_
      rintro e w' ⟨rfl, rfl⟩
      go_wp2_with fail
      refine (sWordAdd_no _ _ _ h).mono ?_
      rintro e w' ⟨rfl, rfl⟩
      go_wp2_with fail
      go_ret
      exact ⟨rfl, b1⟩
    · have ha : IsW a := (isW_or a).resolve_right (fun x => h (.inl x))
      have hb : IsW b := (isW_or b).resolve_right (fun x => h (.inr x))
      clear h
      go_wp2_with fail
      refine (iWordAdd_ok _ _ _ ha hb).mono ?_
      rintro e w' ⟨rfl, rfl⟩
      go_wp2_with fail
      refine (sWordAdd_ok _ _ _ ha hb).mono ?_
      rintro e w' ⟨rfl, rfl⟩
      go_wp2_with fail
      refine (iWordAdd_ok _ _ _ hb ha).mono ?_
      rintro e w' ⟨rfl, rfl⟩
      rw [xorI_comm b a]
      go_wp2_with fail
      refine (iWordMeet_ok _ _ _ ha hb).mono ?_
      rintro e w' ⟨rfl, rfl⟩
      have hx : wt (xorI a b) = wt a + wt b - 2 * wt (andI a b) := wtTo_xor a b ha.1 hb.1 24
      have hE : (wt (xorI a b) == wt a + wt b - 2 * wt (andI a b)) = true := by rw [hx]; simp
      clear hx
      have r1 := wt_range (xorI a b)
      have r2 := wt_range a
      have r3 := wt_range b
      have r4 := wt_range (andI a b)
      go_wp2_with fail
      refine (iWordWeight_ok _ _ ⟨xorI_nonneg a b, xorI_le a b ha.2 hb.2⟩).mono ?_
      rintro e w' ⟨rfl, k1, rfl⟩
      go_wp2_with fail
      refine (iWordWeight_ok _ _ ha).mono ?_
      rintro e w' ⟨rfl, k2, rfl⟩
      go_wp2_with fail
      refine (iWordWeight_ok _ _ hb).mono ?_
      rintro e w' ⟨rfl, k3, rfl⟩
      go_wp2_with fail
      refine (iWordWeight_ok _ _ ⟨andI_nonneg a b, andI_le a b hb.2⟩).mono ?_
      rintro e w' ⟨rfl, k4, rfl⟩
      go_wp2_with fail
      go_ret
      exact ⟨rfl, below_drewN b1 _⟩
end Go.Proofs.Ytilankmidkikjaa
