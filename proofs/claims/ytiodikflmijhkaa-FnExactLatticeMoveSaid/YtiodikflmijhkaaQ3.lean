import Derived.Test.YtiodikflmijhkaaQ1
import Derived.Test.YtiodikflmijhkaaP1
import Derived.Test.YtiodikflmijhkaaP0
import Derived.Deep.RegionHeld3
import Derived.Test.YtiodikflmijhkaaQ2
/- Bits of sums, of what is common and of what is left; a slice of bytes that came in. -/
namespace Go.Proofs.Ytiodikflmijhkaa
open Go.RowKit
set_option linter.unusedVariables false

theorem bit_pow (p q : Int) (hp : 0 ≤ p) (hq : 0 ≤ q) : bitI (powI p) q = if q = p then 1 else 0 := by
  obtain ⟨m, rfl⟩ := Int.eq_ofNat_of_zero_le hp
  obtain ⟨n, rfl⟩ := Int.eq_ofNat_of_zero_le hq
  have e : powI (m : Int) = ((2 ^ m : Nat) : Int) := by unfold powI; simp
  rw [e, bitI_nat, Nat.testBit_two_pow]
  by_cases h : m = n
  · subst h; simp
  · have h1 : ¬ ((n : Int) = (m : Int)) := by omega
    simp [h, h1]
theorem bit_xor (a b q : Int) (ha : 0 ≤ a) (hb : 0 ≤ b) (hq : 0 ≤ q) : bitI (xorI a b) q = if bitI a q = bitI b q then 0 else 1 := by
  obtain ⟨A, rfl⟩ := Int.eq_ofNat_of_zero_le ha
  obtain ⟨B, rfl⟩ := Int.eq_ofNat_of_zero_le hb
  obtain ⟨n, rfl⟩ := Int.eq_ofNat_of_zero_le hq
  unfold xorI
  rw [bitI_nat, bitI_nat, bitI_nat, Int.toNat_natCast, Int.toNat_natCast, Nat.testBit_xor]
  cases A.testBit n <;> cases B.testBit n <;> simp
theorem bit_add (t p q : Int) (ht : 0 ≤ t) (hp : 0 ≤ p) (hq : 0 ≤ q) (h : bitI t p = 0) : bitI (t + powI p) q = if q = p then 1 else bitI t q := by
  rw [← xor_pow t p ht hp h, bit_xor t (powI p) q ht (Int.le_of_lt (powI_pos p)) hq, bit_pow p q hp hq]
  by_cases e : q = p
  · subst e; simp [h]
  · simp only [e, if_false]
    rcases bitI_01 t q with h | h <;> simp [h]

theorem IsRow.bytes {w : World} {a : Option Addr} {len cap : Nat} {zs : List Int} (h : IsRow .u8 w a len cap zs) :
    ∃ bs : List Int, bs.length = len ∧ Rds w w.heap.size .u8 a bs ∧ bs.length ≤ cap ∧ cap ≤ maxLen ∧ ∀ i, 0 ≤ bs.getD i 0 ∧ bs.getD i 0 ≤ 255 := by
  obtain ⟨h1, h2, h3⟩ := h.rds
  refine ⟨zs.take len, h2, h1, ?_, ?_, ?_⟩
  · rcases h with ⟨rfl, rfl, rfl, rfl⟩ | ⟨x, rfl, h1, _⟩
    · simp
    · simp; omega
  · rcases h with ⟨rfl, rfl, rfl, rfl⟩ | ⟨x, rfl, _, h2, _⟩
    · simp
    · exact h2
  · intro i
    by_cases hi : i < (zs.take len).length
    · have hm : (zs.take len).getD i 0 ∈ zs.take len := by
        rw [List.getD_eq_getElem?_getD, List.getElem?_eq_getElem hi]
        exact List.getElem_mem hi
      have := h3 _ hm
      exact bounds_u8 this
    · rw [List.getD_eq_getElem?_getD, List.getElem?_eq_none (by omega)]; simp

theorem andI_comm (a b : Int) : andI a b = andI b a := by unfold andI; rw [Nat.and_comm]
theorem toNat_xorI (a b : Int) : (xorI a b).toNat = a.toNat ^^^ b.toNat := by simp [xorI]
theorem toNat_andI (a b : Int) : (andI a b).toNat = a.toNat &&& b.toNat := by simp [andI]
theorem toNat_lessI (a b : Int) : (lessI a b).toNat = a.toNat ^^^ (a.toNat &&& b.toNat) := by simp [lessI]
theorem meet_less (a b : Int) (h : 0 ≤ a) : xorI (andI a b) (lessI a b) = a := by
  unfold xorI
  rw [toNat_andI, toNat_lessI]
  have : (a.toNat &&& b.toNat) ^^^ (a.toNat ^^^ (a.toNat &&& b.toNat)) = a.toNat := by
    apply Nat.eq_of_testBit_eq
    intro i
    simp only [Nat.testBit_xor, Nat.testBit_and]
    cases a.toNat.testBit i <;> cases b.toNat.testBit i <;> rfl
  rw [this]; omega
theorem less_meet (a b : Int) : andI (lessI a b) b = 0 := by
  unfold andI
  rw [toNat_lessI]
  have : (a.toNat ^^^ (a.toNat &&& b.toNat)) &&& b.toNat = 0 := by
    apply Nat.eq_of_testBit_eq
    intro i
    simp only [Nat.testBit_xor, Nat.testBit_and, Nat.zero_testBit]
    cases a.toNat.testBit i <;> cases b.toNat.testBit i <;> rfl
  rw [this]; rfl
theorem less_meet' (a b : Int) : andI (lessI a b) a = lessI a b := by
  unfold andI lessI
  rw [Int.toNat_natCast]
  have : (a.toNat ^^^ (a.toNat &&& b.toNat)) &&& a.toNat = a.toNat ^^^ (a.toNat &&& b.toNat) := by
    apply Nat.eq_of_testBit_eq
    intro i
    simp only [Nat.testBit_xor, Nat.testBit_and]
    cases a.toNat.testBit i <;> cases b.toNat.testBit i <;> rfl
  rw [this]
theorem bit_and (a b q : Int) (hq : 0 ≤ q) : bitI (andI a b) q = if bitI a.toNat q = 1 ∧ bitI b.toNat q = 1 then 1 else 0 := by
  obtain ⟨n, rfl⟩ := Int.eq_ofNat_of_zero_le hq
  unfold andI
  rw [bitI_nat, bitI_nat, bitI_nat, Nat.testBit_and]
  cases a.toNat.testBit n <;> cases b.toNat.testBit n <;> simp
theorem wtTo_xor (a b : Int) (ha : 0 ≤ a) (hb : 0 ≤ b) (n : Nat) : wtTo (xorI a b) n = wtTo a n + wtTo b n - 2 * wtTo (andI a b) n := by
  induction n with
  | zero => rfl
  | succ n ih =>
    simp only [wtTo]
    rw [ih, bit_xor a b n ha hb (by omega), bit_and a b n (by omega), Int.toNat_of_nonneg ha, Int.toNat_of_nonneg hb]
    rcases bitI_01 a n with h1 | h1 <;> rcases bitI_01 b n with h2 | h2 <;> simp [h1, h2] <;> omega

/-- Two words with the same places are the same. -/
theorem word_ext (a b : Int) (ha : IsW a) (hb : IsW b) (h : ∀ q : Nat, q < 24 → bitI a q = bitI b q) : a = b := by
  obtain ⟨a0, a1⟩ := ha
  obtain ⟨b0, b1⟩ := hb
  obtain ⟨A, rfl⟩ := Int.eq_ofNat_of_zero_le a0
  obtain ⟨B, rfl⟩ := Int.eq_ofNat_of_zero_le b0
  congr 1
  apply Nat.eq_of_testBit_eq
  intro i
  by_cases hi : i < 24
  · have := h i hi
    rw [bitI_nat, bitI_nat] at this
    cases hA : A.testBit i <;> cases hB : B.testBit i <;> simp [hA, hB] at this <;> rfl
  · have e : 2 ^ 24 ≤ 2 ^ i := Nat.pow_le_pow_right (by omega) (by omega)
    rw [Nat.testBit_lt_two_pow (by omega : A < 2 ^ i), Nat.testBit_lt_two_pow (by omega : B < 2 ^ i)]
/-- The weight is the number of places. -/
theorem wt_len (W : Nat) (n : Nat) : wtTo (W : Int) n = ((plN W n).length : Nat) := by
  induction n with
  | zero => rfl
  | succ n ih =>
    simp only [wtTo]
    rw [ih, plN_succ, bitI_nat, List.length_append]
    cases W.testBit n <;> simp
theorem wt_plI (n : Int) (h : 0 ≤ n) : ((plI n.toNat).length : Int) = wt n := by
  obtain ⟨R, rfl⟩ := Int.eq_ofNat_of_zero_le h
  unfold wt plI pl
  rw [wt_len]
  simp
theorem wt_other (n : Int) (h : IsW n) : wt (xorI n 16777215) = 24 - wt n := by
  have hm : ∀ q : Nat, q < 24 → bitI (16777215 : Int) q = 1 := by decide
  have key : ∀ k : Nat, k ≤ 24 → wtTo (xorI n 16777215) k = k - wtTo n k := by
    intro k
    induction k with
    | zero => intro _; rfl
    | succ k ih =>
      intro hk
      simp only [wtTo]
      rw [ih (by omega), bit_xor n 16777215 k h.1 (by omega) (by omega), hm k (by omega)]
      rcases bitI_01 n k with h1 | h1 <;> rw [h1] <;> simp <;> omega
  have := key 24 (by omega)
  unfold wt; omega
/-- The word of the first places of a word is the word below. -/
theorem wof_pl (W : Nat) (n : Nat) (hn : n ≤ 24) : ∃ T : Int, wof ((plN W n).map fun (i : Nat) => (i : Int)) = some T ∧ 0 ≤ T ∧ T < 2 ^ n ∧ ∀ q : Nat, bitI T q = if q < n then bitI (W : Int) q else 0 := by
  induction n with
  | zero => exact ⟨0, rfl, by omega, by decide, fun q => by simp [bitI]⟩
  | succ n ih =>
    obtain ⟨T, h1, h2, h3, h4⟩ := ih (by omega)
    rw [plN_succ, List.map_append]
    have hp : powI n = 2 ^ n := by unfold powI; simp
    have hlt : (2 : Int) ^ (n + 1) = 2 * 2 ^ n := by rw [Int.pow_succ]; omega
    have hw := bitI_nat W n
    cases hB : W.testBit n
    · rw [hB] at hw
      refine ⟨T, by simpa using h1, h2, by have : (0 : Int) < 2 ^ n := Int.pow_pos (by decide); omega, fun q => ?_⟩
      rw [h4 q]
      by_cases e : q = n
      · subst e; simp [hw]
      · by_cases hq : q < n
        · simp [hq, show q < n + 1 by omega]
        · simp [hq, show ¬ q < n + 1 by omega]
    · rw [hB] at hw
      have hb : bitI T n = 0 := by rw [h4 n]; simp
      refine ⟨T + powI n, ?_, by have := powI_pos n; omega, by omega, fun q => ?_⟩
      · unfold wof at *
        rw [List.foldl_append, h1]
        show addPl (some T) (n : Int) = _
        simp only [addPl]
        rw [if_pos ⟨by omega, by omega, hb⟩]
      · rw [bit_add T n q h2 (by omega) (by omega) hb, h4 q]
        by_cases e : q = n
        · subst e; simp [hw]
        · have e' : ¬ ((q : Int) = (n : Int)) := by omega
          by_cases hq : q < n
          · simp [hq, e', show q < n + 1 by omega]
          · simp [hq, e', show ¬ q < n + 1 by omega]
theorem wof_plI (n : Int) (h : IsW n) : wof (plI n.toNat) = some n := by
  obtain ⟨h0, h1⟩ := h
  obtain ⟨R, rfl⟩ := Int.eq_ofNat_of_zero_le h0
  obtain ⟨T, hT, t0, t1, tb⟩ := wof_pl R 24 (by omega)
  unfold plI pl
  rw [Int.toNat_natCast, hT]
  congr 1
  exact word_ext T R ⟨t0, by have : (2 : Int) ^ 24 = 16777216 := by decide
                             omega⟩ ⟨by omega, h1⟩ (fun q hq => by rw [tb q, if_pos hq])
/-- Places ascend. -/
theorem plN_asc (W n : Nat) : (plN W n).Pairwise (· < ·) := (List.pairwise_lt_range (n := n)).filter _
theorem plI_asc (W : Nat) (j : Nat) (h : j + 1 < (plI W).length) : (plI W).getD j 0 < (plI W).getD (j + 1) 0 := by
  have hp : (plI W).Pairwise (· < ·) := by
    unfold plI
    rw [List.pairwise_map]
    exact (plN_asc W 24).imp (fun hab => by omega)
  rw [List.getD_eq_getElem?_getD, List.getD_eq_getElem?_getD, List.getElem?_eq_getElem (by omega), List.getElem?_eq_getElem h]
  exact List.pairwise_iff_getElem.1 hp j (j + 1) (by omega) h (by omega)
end Go.Proofs.Ytiodikflmijhkaa
/- Marking a list and asking whether it is held; the model's list of places. -/
namespace Go.Proofs.Ytiodikflmijhkaa
open Go.RowKit
set_option linter.unusedVariables false

def marks (k : Int) (n : Nat) : List Int := (List.range n).map fun (i : Nat) => k + (i : Int)
theorem marks_len (k : Int) (n : Nat) : (marks k n).length = n := by simp [marks]
theorem marks_get (k : Int) (n j : Nat) (h : j < n) : (marks k n).getD j 0 = k + j := by simp [marks, h]
theorem marks_step (k : Int) (xs : List Int) (j : Nat) (h : j < xs.length) : (marks k j ++ xs.drop j).set j (k + j) = marks k (j + 1) ++ xs.drop (j + 1) := by
  rw [List.set_append_right _ _ (by rw [marks_len]; omega), marks_len, Nat.sub_self]
  have e : xs.drop j = xs[j] :: xs.drop (j + 1) := by rw [List.drop_eq_getElem_cons h]
  rw [e, List.set_cons_zero]
  simp [marks, List.range_succ]
theorem own_at {w : World} {B : Nat} {A : Option Addr} {n c : Nat} {xs : List Int} (h : Own w B (.slice A n c) xs) (hp : 0 < n) : ∃ g, A = some ⟨g, 0, none⟩ ∧ B ≤ g ∧ g < w.heap.size := by
  rcases h.form with ⟨h1, _⟩ | ⟨g, cap, h1, h2, h3, _⟩
  · simp only [Value.slice.injEq] at h1; omega
  · simp only [Value.slice.injEq] at h1
    exact ⟨g, h1.1, h2, h3⟩
theorem own_block {A : Option Addr} {n c n' c' : Nat} : (Value.slice A n c).ownBlock = (Value.slice A n' c').ownBlock := by cases A <;> rfl

/-- A marked list reads as marked. -/
theorem Own.rdsM {w : World} {B : Nat} {A : Option Addr} {n c : Nat} {k : Int} {m : Nat} (h : Own w B (.slice A n c) (marks k m)) : Rds w w.heap.size .i64 A (marks k m) := h.rds
theorem Own.belowM {w w' : World} {B : Nat} {v : Value} {xs : List Int} (h : Own w B v xs) (hb : Below w.heap.size w w') : Own w' B v xs := h.below hb

set_option maxHeartbeats 400000 in
theorem markIntS_calls (A : Option Addr) (c : Nat) (xs : List Int) (k : Int) (B : Nat) (w : World) (ho : Own w B (.slice A xs.length c) xs) (hx : xs.length ≤ 1048576) (h0 : 0 ≤ k) (h1 : k ≤ 1073741824) :
    Calls Try.prog 8 #[.slice A xs.length c, .int .i64 k] w fun e w' => e = .returned (.int .i64 (k + xs.length)) ∧ Own w' B (.slice A xs.length c) (marks k xs.length) ∧ w.grownBy w' (Value.slice A xs.length c).ownBlock := by
  have HO := Lib.hid ho
  clear ho
  go_enter Try.func8, Try.ntmps8
  go_wp2
  go_loopw [1, 5] (fun q i wr => ∃ j : Nat, j ≤ xs.length ∧ i = .int .i64 j ∧ q = .int .i64 (k + j) ∧ Hid (Own wr B (.slice A xs.length c) (marks k j ++ xs.drop j)) ∧ Hid (w.grownBy wr (Value.slice A xs.length c).ownBlock)) (fun _ i _ => xs.length - (intOf i).toNat)
  case atStart => exact ⟨0, Nat.zero_le _, rfl, by simp, Lib.hid (by simpa [marks] using HO.out), Lib.hid (World.grownBy.refl _ _)⟩
  case round =>
    obtain ⟨j, hj, rfl, rfl, ho, hg⟩ := hrel
    by_cases hlt : j < xs.length
    · obtain ⟨g, rfl, hBg, hgl⟩ := own_at ho.out (by omega)
      have c2 := ho.out.cell (j := j) (by simp [marks_len]; omega)
      have f2 := ho.out.free j
      have HS := Lib.hid (ho.out.set j (k + j))
      rw [marks_step k xs j hlt] at HS
      have HG := Lib.hid (grown_trans hg.out (show wr.grownBy (wr.setCell ⟨g, j, none⟩ (.int .i64 (k + j))) (some g) from ⟨rfl, rfl, rfl, by simp, fun i _ hne => Below.heap_setCell wr ⟨g, j, none⟩ _ i (fun e => hne (by rw [e]))⟩))
      clear ho hg
      generalize (marks k j ++ xs.drop j).getD j 0 = y at *
      go_wp2
      go_roundw
      case rel => exact ⟨j + 1, by omega, by go_num, by go_num, HS, HG⟩
      case measure => simp [intOf]; omega
    · obtain rfl : j = xs.length := by omega
      have HS := Lib.hid (show Own wr B (.slice A xs.length c) (marks k xs.length) from by have := ho.out; rwa [List.drop_length, List.append_nil] at this)
      clear ho
      go_wp2
      go_ret
      exact ⟨rfl, HS.out, hg.out⟩
theorem heldIntS_calls (A : Option Addr) (c n : Nat) (k : Int) (w : World) (hr : Rds w w.heap.size .i64 A (marks k n)) (hx : n ≤ 1048576) (h0 : 0 ≤ k) (h1 : k ≤ 1073741824) :
    Calls Try.prog 9 #[.slice A n c, .int .i64 k] w fun e w' => e = .returned (.int .i64 (k + n)) ∧ w = w' := by
  go_enter Try.func9, Try.ntmps9
  go_wp2
  go_loop [1, 5] (fun q i => ∃ j : Nat, j ≤ n ∧ i = .int .i64 j ∧ q = .int .i64 (k + j)) (fun _ i => n - (intOf i).toNat)
  case atStart => exact ⟨0, Nat.zero_le _, rfl, by simp⟩
  case round =>
    obtain ⟨j, hj, rfl, rfl⟩ := hrel
    by_cases hlt : j < n
    · obtain ⟨b, o, rfl, _, hc⟩ := hr.at_ (j := j) (by rw [marks_len]; exact hlt)
      rw [marks_get k n j hlt] at hc
      go_wp2
      go_round
      case rel => exact ⟨j + 1, by omega, by go_num, by go_num⟩
      case measure => simp [intOf]; omega
    · obtain rfl : j = n := by omega
      go_wp2
      go_ret
      exact ⟨rfl, rfl⟩

theorem own_empty (w : World) (B : Nat) (hB : B ≤ w.heap.size) : Own (w.alloc (.cells #[] 3)) B (.slice (some ⟨w.heap.size, 0, none⟩) 0 0) [] :=
  ⟨rfl, .inr ⟨w.heap.size, 0, #[], rfl, hB, heap_alloc_new w _, by simp, by unfold maxLen; omega, by simp, by simp [vals]⟩⟩
def plNI (W N : Nat) : List Int := (plN W N).map fun (i : Nat) => (i : Int)
theorem plNI_succ (W N : Nat) : plNI W (N + 1) = plNI W N ++ if W.testBit N then [(N : Int)] else [] := by
  unfold plNI
  rw [plN_succ, List.map_append]
  cases W.testBit N <;> simp
theorem plNI_len (W N : Nat) : (plNI W N).length ≤ N := by
  unfold plNI plN
  have := List.length_filter_le (fun i => W.testBit i) (List.range N)
  simpa using this
end Go.Proofs.Ytiodikflmijhkaa
/- Drawing different places. -/
namespace Go.Proofs.Ytiodikflmijhkaa
open Go.RowKit
set_option linter.unusedVariables false

theorem wtTo_addp (t p : Int) (ht : 0 ≤ t) (hp : 0 ≤ p) (h : bitI t p = 0) (n : Nat) : wtTo (t + powI p) n = wtTo t n + if p < n then 1 else 0 := by
  induction n with
  | zero => simp only [wtTo]; rw [if_neg (by omega)]; rfl
  | succ n ih =>
    simp only [wtTo]
    rw [ih, bit_add t p n ht hp (by omega) h]
    by_cases e : (n : Int) = p
    · subst e; simp [h]; omega
    · by_cases h2 : p < n
      · rw [if_pos h2, if_neg e, if_pos (by omega)]; omega
      · rw [if_neg h2, if_neg e, if_neg (by omega)]; omega
theorem wt_addp (t p : Int) (ht : 0 ≤ t) (hp : 0 ≤ p) (hp2 : p ≤ 23) (h : bitI t p = 0) : wt (t + powI p) = wt t + 1 := by
  unfold wt; rw [wtTo_addp t p ht hp h 24, if_pos (by omega)]
theorem free_place (t : Int) (h : wt t < 24) : ∃ d : Nat, d < 24 ∧ bitI t d = 0 := by
  apply Classical.byContradiction
  intro hn
  have hall : ∀ d : Nat, d < 24 → bitI t d = 1 := fun d hd => by
    rcases bitI_01 t d with h0 | h1
    · exact absurd ⟨d, hd, h0⟩ hn
    · exact h1
  have key : ∀ k : Nat, k ≤ 24 → wtTo t k = k := by
    intro k
    induction k with
    | zero => intro _; rfl
    | succ k ih => intro hk; simp only [wtTo]; rw [ih (by omega), hall k (by omega)]; omega
  have := key 24 (by omega)
  unfold wt at h; omega

/-- A row of the call's own lies as it lay where only a block below it was written. -/
theorem Own.grownG {w w' : World} {B g : Nat} {v : Value} {xs : List Int} (h : Own w B v xs) (hg : w.grownBy w' (some g)) (hB : g < B) : Own w' B v xs := by
  refine ⟨h.1, ?_⟩
  rcases h.2 with h1 | ⟨b, cap, cur, h1, h2, h3, h4⟩
  · exact .inl h1
  · exact .inr ⟨b, cap, cur, h1, h2, (hg.block b (Array.getElem?_eq_some_iff.1 h3).1 (by simp; omega)).trans h3, h4⟩
theorem grown_then_below {w w1 w2 : World} {row : Option Nat} (h : w.grownBy w1 row) (hb : Below w.heap.size w1 w2) : w.grownBy w2 row :=
  ⟨hb.os.trans h.os, hb.tape.trans h.tape, hb.output.trans h.output, Nat.le_trans h.size hb.size, fun k hk hne => (hb.block k hk).trans (h.block k hk hne)⟩
theorem free_step (T p : Int) (d : Nat) (hd : d < 24) (hb : bitI T d = 0) (h : bitI T p = 1) (p0 : 0 ≤ p) (p1 : p ≤ 23) : (((d : Int) + 24 - (p + 1) % 24).toNat) % 24 < (((d : Int) + 24 - p).toNat) % 24 := by
  have : p ≠ d := by rintro rfl; omega
  omega
theorem own_lt {w : World} {B b : Nat} {n c : Nat} {xs : List Int} (h : Own w B (.slice (some ⟨b, 0, none⟩) n c) xs) : b < w.heap.size := by
  rcases h.form with ⟨h1, _⟩ | ⟨g, cap, h1, h2, h3, _⟩
  · simp at h1
  · simp only [Value.slice.injEq, Option.some.injEq, Addr.mk.injEq] at h1
    omega
theorem pick3 (yn z : Int) (h0 : 0 ≤ yn) (h1 : yn ≤ 23) (z0 : 0 ≤ z) (z1 : z < 3) : ∃ Y : Int, (#[Value.int .i64 24, .int .i64 (-1), .int .i64 yn] : Array Value)[z.toNat]? = some (.int .i64 Y) ∧ (∀ h : z.toNat < [Value.int .i64 24, .int .i64 (-1), .int .i64 yn].length, [Value.int .i64 24, .int .i64 (-1), .int .i64 yn][z.toNat]'h = .int .i64 Y) ∧ -1 ≤ Y ∧ Y ≤ 24 := by
  have : z = 0 ∨ z = 1 ∨ z = 2 := by omega
  rcases this with rfl | rfl | rfl
  · exact ⟨24, rfl, fun _ => rfl, by omega, by omega⟩
  · exact ⟨-1, rfl, fun _ => rfl, by omega, by omega⟩
  · exact ⟨yn, rfl, fun _ => rfl, by omega, by omega⟩
theorem built_cell {w1 w2 : World} {cs : Array Value} {t : TypeId} {g i : Nat} {Y : Value} (hg : (World.drew (w1.alloc (.cells cs t))).grownBy w2 (some g)) (h : cs[i]? = some Y) (hlt : g < w1.heap.size) : w2.cell? ⟨w1.heap.size, i, none⟩ = some Y := by
  have hn : (World.drew (w1.alloc (.cells cs t))).cell? ⟨w1.heap.size, i, none⟩ = some Y := cell_new w1 cs t i Y h
  rw [World.cell?_of_block (hg.block w1.heap.size (by show _ < (w1.alloc _).heap.size; simp) (by simp; omega))]
  exact hn
end Go.Proofs.Ytiodikflmijhkaa