/- Numbers written are read; scripts of the laws on words, mending, messages. -/
import Derived.Test.YtcfhfllcdliaoaaGreatDoorC213
namespace Go.Proofs.YtcfhfllcdliaoaaGreatDoor
open Go.RowKit
open Go.PlainAid (bt get_bt bt_nonneg bt_le)
set_option linter.unusedVariables false
set_option linter.unusedSimpArgs false
attribute [local irreducible] octS cN octF syn nearL farI

/-! ### What is written is read -/
def valF (l : List UInt8) : Int := l.foldl (fun v b => 10 * v + ((b.toNat : Int) - 48)) 0
theorem valF_snoc (l : List UInt8) (d : UInt8) : valF (l ++ [d]) = 10 * valF l + ((d.toNat : Int) - 48) := by unfold valF; rw [List.foldl_append]; rfl
theorem valTo_list (l : List UInt8) : ∀ k, k ≤ l.length → valTo (BA l) k = valF (l.take k)
  | 0, _ => rfl
  | k + 1, h => by
    have hk : k < (BA l).size := h
    rw [List.take_succ_eq_append_getElem (by omega), valF_snoc, ← valTo_list l k (by omega)]
    show 10 * valTo (BA l) k + (bt (BA l) k - 48) = _
    rw [bt_at _ _ hk]
    rfl
theorem allD_list (l : List UInt8) (h : ∀ x ∈ l, 48 ≤ x.toNat ∧ x.toNat ≤ 57) : ∀ k, k ≤ l.length → allD (BA l) k = true
  | 0, _ => rfl
  | k + 1, hk => by
    unfold allD
    rw [allD_list l h k (by omega), bt_at (BA l) k hk, Bool.true_and]
    have := h (l[k]'hk) (List.getElem_mem hk)
    unfold isDigB
    rw [decide_eq_true_eq]
    show 48 ≤ ((l[k]'hk).toNat : Int) ∧ ((l[k]'hk).toNat : Int) ≤ 57
    omega
theorem valF_dec : ∀ n : Nat, valF (decN n) = (n : Int) := by
  intro n
  induction n using Nat.strongRecOn with
  | ind n ih =>
    have hb : ∀ m : Nat, m < 10 → (((UInt8.ofNat (48 + m)).toNat : Nat) : Int) - 48 = (m : Int) := fun m hm => by simp; omega
    by_cases h : n < 10
    · rw [decN_small h]
      show 10 * 0 + ((((UInt8.ofNat (48 + n)).toNat : Nat) : Int) - 48) = _
      rw [hb n h]
      omega
    · rw [decN_big h, valF_snoc, ih (n / 10) (by omega), hb (n % 10) (by omega)]
      omega
theorem decN_pos (n : Nat) : 1 ≤ (decN n).length := by
  by_cases h : n < 10
  · rw [decN_small h]; exact Nat.le_refl _
  · rw [decN_big h, List.length_append]; simp
theorem numS_dec {n : Nat} (h : n < 100000000) : numS (BA (decN n)) = ((n : Int), true) := by
  have h8 : (decN n).length ≤ 8 := decN_len 7 n (by omega)
  have hs : (BA (decN n)).size = (decN n).length := rfl
  rw [numS_good ⟨by rw [hs]; exact decN_pos n, by rw [hs]; exact h8⟩ (by rw [hs]; exact allD_list _ (decN_byte n) _ (Nat.le_refl _)), hs, valTo_list _ _ (Nat.le_refl _), List.take_length, valF_dec]
theorem oneA_dec {n : Nat} (h : n < 100000000) : oneA (BA (decN n)) = (n : Int) := by
  unfold oneA
  rw [numS_dec h]
  rfl
/-! ### A line with a rest -/
theorem index_name (t : List UInt8) : ∀ u : List UInt8, (∀ x ∈ u, x ≠ 32) → Lib.index (u ++ 32 :: t) [32] = (u.length : Int)
  | [], _ => index_hit 32 t
  | x :: u, h => by
    rw [List.cons_append, index_miss _ (h x (List.mem_cons_self ..)), index_name t u fun y hy => h y (List.mem_cons_of_mem _ hy), if_neg (by intro e; have := beq_iff_eq.1 e; omega)]
    simp
theorem spAt_name {u : List UInt8} (t : List UInt8) (h : ∀ x ∈ u, x ≠ 32) : spAt (BA (u ++ 32 :: t)) = u.length := by
  have h1 := sp_index (BA (u ++ 32 :: t)) (BA (u ++ 32 :: t)).size 0 (by omega) (by omega)
  rw [List.drop_zero] at h1
  have h2 := index_name t u h
  unfold spAt
  rcases h1 with ⟨_, h3⟩ | ⟨_, h3⟩
  · rw [show (BA (u ++ 32 :: t)).data.toList = u ++ 32 :: t from rfl, h2] at h3
    omega
  · rw [show (BA (u ++ 32 :: t)).data.toList = u ++ 32 :: t from rfl, h2] at h3
    omega
theorem line_rest {u : List UInt8} (t : List UInt8) (h : ∀ x ∈ u, x ≠ 32) (n : Int) : lineA n (BA (u ++ 32 :: t)) = if (changeA n u (BA t)).2.1 then doneA n ((changeA n u (BA t)).1, (changeA n u (BA t)).2.2) else (n, aWhat) := by
  have hs := spAt_name t h
  have hz : (BA (u ++ 32 :: t)).size = u.length + (t.length + 1) := by show (u ++ 32 :: t).length = _; simp
  have e1 : ((BA (u ++ 32 :: t)).extract 0 u.length).data.toList = u := by
    rw [ext_list, List.drop_zero, Nat.sub_zero]
    exact List.take_left' rfl
  have e2 : (BA (u ++ 32 :: t)).extract (u.length + 1) (BA (u ++ 32 :: t)).size = BA t := by
    have h1 := ext_list (BA (u ++ 32 :: t)) (u.length + 1) (BA (u ++ 32 :: t)).size
    have h2 : (BA (u ++ 32 :: t)).extract (u.length + 1) (BA (u ++ 32 :: t)).size = BA (((BA (u ++ 32 :: t)).extract (u.length + 1) (BA (u ++ 32 :: t)).size).data.toList) := rfl
    rw [h2, h1, hz]
    show BA (((u ++ 32 :: t).drop (u.length + 1)).take _) = _
    rw [show u ++ 32 :: t = (u ++ [32]) ++ t by simp, List.drop_left' (by simp), List.take_of_length_le (by omega)]
  exact lineA_rest (by rw [hs, hz]; omega) (by rw [hs, e1, e2])
theorem noSp_set : ∀ x ∈ wSet, x ≠ 32 := by decide
theorem noSp_code : ∀ x ∈ wCode, x ≠ 32 := by decide
theorem change_set (m : Int) (r : ByteArray) : changeA m wSet r = (oneA r, true, wordB (oneA r)) := rfl
theorem change_code (m : Int) (r : ByteArray) : changeA m wCode r = ((cOf (oneA r)).1, true, (cOf (oneA r)).2) := rfl
theorem said_one2 (x : Int) : saidL ([x], true) = decN x.toNat := rfl
theorem line_set {n : Nat} (h : n ≤ 16777215) (m : Int) : lineA m (BA (wSet ++ 32 :: decN n)) = ((n : Int), aOk) := by
  rw [line_rest _ noSp_set, change_set, oneA_dec (by omega)]
  show doneA m ((n : Int), wordB (n : Int)) = _
  rw [(wordB_iff (n : Int)).2 ⟨by omega, by omega⟩]
  rfl
theorem line_code {n : Nat} (h : n < 100000000) (m : Int) : lineA m (BA (wCode ++ 32 :: decN n)) = doneA m (cOf (n : Int)) := by
  rw [line_rest _ noSp_code, change_code, oneA_dec h]
  rfl
theorem line_mend (m : Int) : lineA m (BA wMend) = doneA m (cMend m) := lineA_mend (by kernel_rfl) rfl
theorem line_in (m : Int) : lineA m (BA wIn) = (m, if cIn m then aYes else aNot) := by
  rw [lineA_bare (by kernel_rfl) (by decide)]
  rfl
theorem line_weight (m : Int) : lineA m (BA wWeight) = (m, decN (wt m).toNat) := by
  rw [lineA_bare (by kernel_rfl) (by decide)]
  show (m, saidL ([wt m], true)) = _
  rw [said_one2]
theorem line_near (m : Int) : lineA m (BA wNear) = (m, decN (cFar m).toNat) := by
  rw [lineA_bare (by kernel_rfl) (by decide)]
  show (m, saidL ([cFar m], true)) = _
  rw [said_one2]
/-! ### The scripts -/
theorem dec_no10 (n : Nat) : ∀ x ∈ decN n, x ≠ 10 := fun x hx e => by
  have := decN_byte n x hx
  rw [e] at this
  simp at this
theorem parts_first {u : List UInt8} (n : Nat) (t : List UInt8) (hu : ∀ x ∈ u, x ≠ 10) : partsAt 10 (u ++ 32 :: (decN n ++ 10 :: t)) [] = (u ++ 32 :: decN n) :: partsAt 10 t [] := by
  have h := partsAt_line 10 t (u ++ 32 :: decN n) [] (fun x hx => by
    rcases List.mem_append.1 hx with h | h
    · exact hu x h
    · rcases List.mem_cons.1 h with rfl | h
      · decide
      · exact dec_no10 n x h)
  rw [List.append_assoc] at h
  exact h
def wordT (n : Nat) : List UInt8 := wSet ++ 32 :: (decN n ++ 10 :: [115, 104, 111, 119, 10, 119, 101, 105, 103, 104, 116, 10, 110, 101, 97, 114, 10])
def mendT (n : Nat) : List UInt8 := wSet ++ 32 :: (decN n ++ 10 :: [109, 101, 110, 100, 10, 105, 110, 10])
def codeT (n : Nat) : List UInt8 := wCode ++ 32 :: (decN n ++ 10 :: [105, 110, 10, 109, 101, 110, 100, 10])
theorem exec_word {n : Nat} (h : n ≤ 16777215) : execR (BA (wordT n)) = ((n : Int), (aOk ++ [10]) ++ ((chrs n 27 ++ [10]) ++ ((decN (wt n).toNat ++ [10]) ++ (decN (cFar n).toNat ++ [10])))) := by
  rw [execR_parts]
  show (partsAt 10 (wordT n) []).foldl runL _ = _
  unfold wordT
  rw [parts_first n _ (by decide), show partsAt 10 [115, 104, 111, 119, 10, 119, 101, 105, 103, 104, 116, 10, 110, 101, 97, 114, 10] [] = [wShow, wWeight, wNear] by decide]
  show runL (runL (runL (runL (0, []) (wSet ++ 32 :: decN n)) wShow) wWeight) wNear = _
  unfold runL
  rw [line_set h, line_show, line_weight, line_near]
  simp
theorem exec_mend {n : Nat} (h : n ≤ 16777215) {m : Int} (hm : cMend (n : Int) = (m, true)) (hi : cIn m = true) : execR (BA (mendT n)) = (m, [111, 107, 10, 111, 107, 10, 121, 101, 115, 10]) := by
  rw [execR_parts]
  show (partsAt 10 (mendT n) []).foldl runL _ = _
  unfold mendT
  rw [parts_first n _ (by decide), show partsAt 10 [109, 101, 110, 100, 10, 105, 110, 10] [] = [wMend, wIn] by decide]
  show runL (runL (runL (0, []) (wSet ++ 32 :: decN n)) wMend) wIn = _
  unfold runL
  rw [line_set h, line_mend, hm]
  show ((lineA m (BA wIn)).1, _ ++ ((lineA m (BA wIn)).2 ++ [10])) = _
  rw [line_in, hi]
  rfl
theorem exec_code {n : Nat} (h : n ≤ 4095) {m : Int} (hc : cOf (n : Int) = (m, true)) (hi : cIn m = true) (hm : cMend m = (m, true)) : execR (BA (codeT n)) = (m, [111, 107, 10, 121, 101, 115, 10, 111, 107, 10]) := by
  rw [execR_parts]
  show (partsAt 10 (codeT n) []).foldl runL _ = _
  unfold codeT
  rw [parts_first n _ (by decide), show partsAt 10 [105, 110, 10, 109, 101, 110, 100, 10] [] = [wIn, wMend] by decide]
  show runL (runL (runL (0, []) (wCode ++ 32 :: decN n)) wIn) wMend = _
  unfold runL
  rw [line_code (by omega), hc]
  show ((lineA (lineA m (BA wIn)).1 (BA wMend)).1, _) = _
  rw [show (doneA 0 (m, true)) = (m, aOk) from rfl, line_in, hi]
  show ((lineA m (BA wMend)).1, _ ++ ((lineA m (BA wMend)).2 ++ [10])) = _
  rw [line_mend, hm]
  rfl
end Go.Proofs.YtcfhfllcdliaoaaGreatDoor
