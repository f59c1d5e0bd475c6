/- Joined texts: C28 W7 C100 C159. -/
import Derived.Test.YtiodikflmijhkaaGreatDoorJ11
import Derived.Test.YtiodikflmijhkaaGreatDoorJ04
import Derived.Test.YtiodikflmijhkaaGreatDoorJ00
import Derived.Test.YtiodikflmijhkaaGreatDoorJ06
import Derived.Test.YtiodikflmijhkaaGreatDoorJ08
import Derived.Test.YtiodikflmijhkaaGreatDoorJ05
import Derived.Laws.Rows
import Derived.Laws.Tables
import Derived.Laws.CopyOwn
section
namespace Go.Proofs.YtiodikflmijhkaaGreatDoor
open Go.RowKit
set_option linter.unusedVariables false

def scTo (w : Int) (c : Nat) : Nat → Int
  | 0 => 0
  | r + 1 => if bitI w (4 * (c : Int) + (r : Int)) = 1 then xorI (scTo w c r) r else scTo w c r
def scB (n : Int) : Nat → Int
  | 0 => 0
  | r + 1 => if bitI n (r : Int) = 1 then xorI (scB n r) r else scB n r
theorem scB_all : ∀ n : Fin 16, scB (n.val : Int) 4 = scN (n.val : Int) := by decide +kernel
theorem scTo_scB (w : Int) (c r : Nat) (hr : r ≤ 4) : scTo w c r = scB (colI w c) r := by
  induction r with
  | zero => rfl
  | succ r ih => simp only [scTo, scB]; rw [ih (by omega), bit_col w c r (by omega)]
theorem scTo_all (w : Int) (c : Nat) : scTo w c 4 = scoreI w c := by
  rw [scTo_scB w c 4 (by omega)]
  obtain ⟨x, hx⟩ := nib_fin (colI_range w c).1 (colI_range w c).2
  unfold scoreI; rw [hx]; exact scB_all x
theorem scTo_d (w : Int) (c r : Nat) (hr : r ≤ 4) : IsD (scTo w c r) := by
  induction r with
  | zero => exact zero_d
  | succ r ih =>
    simp only [scTo]
    split
    · exact xorI_d (ih (by omega)) ⟨by omega, by omega⟩
    · exact ih (by omega)
theorem l3Score_calls (n : Int) (c : Nat) (w : World) (hc : c < 6) :
    Calls Tryz.prog 148 #[.int .i64 n, .int .i64 c] w fun e w' => e = .returned (.int .i64 (scoreI n c)) ∧ w = w' := by
  have HA := Lib.hid (scTo_all n c)
  go_enter Tryz.func148, Tryz.ntmps148
  go_wp2
  go_loop [5, 6] (fun v i => ∃ r : Nat, r ≤ 4 ∧ i = .int .i64 r ∧ v = .int .i64 (scTo n c r)) (fun _ i => 4 - (intOf i).toNat)
  case atStart => exact ⟨0, by omega, rfl, rfl⟩
  case round =>
    obtain ⟨r, hr, rfl, rfl⟩ := hrel
    by_cases hlt : r < 4
    · have hd := scTo_d n c r hr
      obtain ⟨hd0, hd1⟩ := hd
      have hx : bits .xor .i64 (scTo n c r) (r : Int) = xorI (scTo n c r) r := xor_i64 _ _ hd0 (by omega) (by omega) (by omega)
      have HX := Lib.hid hx
      clear hx
      by_cases hb : bitI n (4 * (c : Int) + (r : Int)) = 1
      · have HS := Lib.hid (show scTo n c (r + 1) = xorI (scTo n c r) r by simp only [scTo]; rw [if_pos hb])
        have hbb : (bitI n (4 * (c : Int) + (r : Int)) == 1) = true := by simp [hb]
        generalize scTo n c r = V at *
        clear hb
        go_wp2_with (go_at_call 45; refine (l1Bit_calls _ _ _ (by omega) (by omega)).mono ?_; rintro e w' ⟨rfl, rfl⟩)
        go_round
        case rel => exact ⟨r + 1, by omega, by go_num, by rw [HS.out, ← HX.out]⟩
        case measure => simp [intOf]; omega
      · have HS := Lib.hid (show scTo n c (r + 1) = scTo n c r by simp only [scTo]; rw [if_neg hb])
        have hbb : (bitI n (4 * (c : Int) + (r : Int)) == 1) = false := by simpa using hb
        generalize scTo n c r = V at *
        clear hb
        go_wp2_with (go_at_call 45; refine (l1Bit_calls _ _ _ (by omega) (by omega)).mono ?_; rintro e w' ⟨rfl, rfl⟩)
        go_round
        case rel => exact ⟨r + 1, by omega, by go_num, by rw [HS.out]⟩
        case measure => simp [intOf]; omega
    · obtain rfl : r = 4 := by omega
      go_wp2
      go_ret
      exact ⟨ret_i HA.out, rfl⟩
theorem scores_take (n : Int) (c : Nat) (hc : c < 6) : (scoresI n).take c ++ [scoreI n c] = (scoresI n).take (c + 1) := by
  match c, hc with
  | 0, _ => rfl
  | 1, _ => rfl
  | 2, _ => rfl
  | 3, _ => rfl
  | 4, _ => rfl
  | 5, _ => rfl
set_option maxHeartbeats 400000 in
theorem l3Scores_calls (n : Int) (w : World) :
    Calls Tryz.prog 136 #[.int .i64 n] w fun e w' => ∃ v, e = .returned v ∧ Own w' w.heap.size v (scoresI n) ∧ Below w.heap.size w w' := by
  have HO := Lib.hid (own_empty w w.heap.size (Nat.le_refl _))
  go_enter Tryz.func136, Tryz.ntmps136
  go_wp2
  go_loopw [3, 4] (fun v i wr => ∃ k : Nat, k ≤ 6 ∧ i = .int .i64 k ∧ Hid (Own wr w.heap.size v ((scoresI n).take k)) ∧ Hid (Below w.heap.size w wr)) (fun _ i _ => 6 - (intOf i).toNat)
  case atStart => exact ⟨0, by omega, rfl, HO, Lib.hid ((Below.refl _ _).alloc (Nat.le_refl _) _)⟩
  case round =>
    obtain ⟨k, hk, rfl, ho, hb⟩ := hrel
    clear HO
    by_cases hlt : k < 6
    · have HS := Lib.hid (scores_take n k hlt)
      have hl : ((scoresI n).take k).length ≤ 6 := by have := List.length_take_le k (scoresI n); omega
      go_wp2_with (first
        | (go_at_call 148; refine (l3Score_calls _ _ _ hlt).mono ?_; rintro e w' ⟨rfl, rfl⟩)
        | (at_builtin; refine wpList_push rfl _ _ rfl wr w.heap.size _ _ _ _ rfl rfl (by exact ho.out) (by omega) hb.out.size ?_; intro v2 w2 ho2 hb2 _))
      rw [HS.out] at ho2
      go_roundw
      case rel => exact ⟨k + 1, by omega, by go_num, Lib.hid ho2, Lib.hid (hb.out.trans hb2)⟩
      case measure => simp [intOf]; omega
    · obtain rfl : k = 6 := by omega
      go_wp2
      go_ret
      exact ⟨_, rfl, ho.out, hb.out⟩
theorem l3Column_calls (n : Int) (c : Nat) (w : World) (h0 : 0 ≤ n) (h1 : n ≤ 16777215) (hc : c < 6) :
    Calls Tryz.prog 135 #[.int .i64 n, .int .i64 c] w fun e w' => e = .returned (.int .i64 (colI n c)) ∧ w = w' := by
  have hv : bits .and .i64 (n / 2 ^ (4 * c)) 15 = colI n c := by
    have h2 : 0 ≤ n / 2 ^ (4 * c) := Int.ediv_nonneg h0 (by exact Int.le_of_lt (Int.pow_pos (by decide)))
    have h3 := Int.ediv_le_self (2 ^ (4 * c)) h0
    rw [and_i64 _ 15 h2 (by omega) (by omega) (by omega)]
    unfold colI andI
    obtain ⟨X, hX⟩ := Int.eq_ofNat_of_zero_le h2
    rw [hX, Int.toNat_natCast, show (15 : Int).toNat = 2 ^ 4 - 1 from rfl, Nat.and_two_pow_sub_one_eq_mod]
    simp
  go_enter Tryz.func135, Tryz.ntmps135
  go_wp2
  go_ret
  exact ⟨rfl, rfl⟩
theorem l3Top_calls (n : Int) (w : World) :
    Calls Tryz.prog 134 #[.int .i64 n] w fun e w' => e = .returned (.int .i64 (topI n)) ∧ w = w' := by
  have HA := Lib.hid (show topTo n 6 = topI n from rfl)
  go_enter Tryz.func134, Tryz.ntmps134
  go_wp2
  go_loop [3, 4] (fun v i => ∃ r : Nat, r ≤ 6 ∧ i = .int .i64 r ∧ v = .int .i64 (topTo n r)) (fun _ i => 6 - (intOf i).toNat)
  case atStart => exact ⟨0, by omega, rfl, rfl⟩
  case round =>
    obtain ⟨r, hr, rfl, rfl⟩ := hrel
    by_cases hlt : r < 6
    · have hd := topTo_01 n r
      have hb := bitI_01 n (4 * (r : Int))
      have hx : bits .xor .i64 (topTo n r) (bitI n (4 * (r : Int))) = topTo n (r + 1) := by
        show _ = xorI _ _
        exact xor_i64 _ _ (by omega) (by omega) (by omega) (by omega)
      have HX := Lib.hid hx
      clear hx hd hb
      go_wp2_with (go_at_call 45; refine (l1Bit_calls _ _ _ (by omega) (by omega)).mono ?_; rintro e w' ⟨rfl, rfl⟩)
      go_round
      case rel => exact ⟨r + 1, by omega, by go_num, by rw [HX.out]⟩
      case measure => simp [intOf]; omega
    · obtain rfl : r = 6 := by omega
      go_wp2
      go_ret
      exact ⟨ret_i HA.out, rfl⟩
def parTo (w : Int) : Nat → Bool
  | 0 => true
  | c + 1 => parTo w c && (parI w c == topI w)
theorem parTo_all (w : Int) : codeInB w = (parTo w 6 && hexB (scoresI w)) := by
  have h : ∀ k : Nat, (List.range k).all (fun c => parI w c == topI w) = parTo w k := by
    intro k
    induction k with
    | zero => rfl
    | succ k ih => rw [List.range_succ, List.all_append, ih]; simp [parTo]
  unfold codeInB
  rw [h 6]
theorem parTo_no (w : Int) (c : Nat) (hc : c < 6) (h : (parI w c == topI w) = false) : codeInB w = false := by
  have : ∀ k : Nat, c < k → parTo w k = false := by
    intro k
    induction k with
    | zero => intro h; omega
    | succ k ih =>
      intro hk
      simp only [parTo]
      by_cases e : c = k
      · subst e; simp [h]
      · rw [ih (by omega)]; rfl
  rw [parTo_all, this 6 hc]; rfl
theorem rowB_scores (n : Int) : rowB (scoresI n) = true := (rowB_iff _).2 (scoresI_row n)
set_option maxHeartbeats 400000 in
theorem l3In_calls (n : Int) (w : World) (h0 : 0 ≤ n) (h1 : n ≤ 16777215) :
    Calls Tryz.prog 101 #[.int .i64 n] w fun e w' => e = .returned (.bool (codeInB n)) ∧ Below w.heap.size w w' := by
  have ht := topTo_01 n 6
  have htt : topI n = 0 ∨ topI n = 1 := ht
  have HNO := Lib.hid (parTo_no n)
  have HAL := Lib.hid (parTo_all n)
  have hP : ∀ c : Nat, wt (colI n c) % 2 = parI n c := fun c => rfl
  go_enter Tryz.func101, Tryz.ntmps101
  go_wp2_with (go_at_call 134; refine (l3Top_calls _ _).mono ?_; rintro e w' ⟨rfl, rfl⟩)
  go_loop [4] (fun i => ∃ c : Nat, c ≤ 6 ∧ i = .int .i64 c ∧ Hid (parTo n c = true)) (fun i => 6 - (intOf i).toNat)
  case atStart => exact ⟨0, by omega, rfl, Lib.hid rfl⟩
  case round =>
    obtain ⟨c, hc, rfl, hp⟩ := hrel
    by_cases hlt : c < 6
    · have hwr := wt_range (colI n c)
      rcases hb : (parI n c == topI n) with _ | _
      · have HF := Lib.hid (HNO.out c hlt hb)
        have hb2 : (wt (colI n c) % 2 != topI n) = true := by rw [hP]; simpa using hb
        generalize hW : wt (colI n c) = W at *
        have HW := Lib.hid hW
        clear hW hb
        go_wp2_with (first
          | (go_at_call 135; refine (l3Column_calls _ _ _ h0 h1 hlt).mono ?_; rintro e w' ⟨rfl, rfl⟩)
          | (go_at_call 57; refine (l1Weight_calls _ _).mono ?_; rintro e w' ⟨rfl, rfl⟩; rw [HW.out]))
        go_ret
        exact ⟨ret_b HF.out.symm, Below.refl _ _⟩
      · have HF := Lib.hid (show parTo n (c + 1) = true by simp only [parTo]; rw [hp.out, hb]; rfl)
        have hb2 : (wt (colI n c) % 2 != topI n) = false := by rw [hP]; simpa using hb
        generalize hW : wt (colI n c) = W at *
        have HW := Lib.hid hW
        clear hW hb
        go_wp2_with (first
          | (go_at_call 135; refine (l3Column_calls _ _ _ h0 h1 hlt).mono ?_; rintro e w' ⟨rfl, rfl⟩)
          | (go_at_call 57; refine (l1Weight_calls _ _).mono ?_; rintro e w' ⟨rfl, rfl⟩; rw [HW.out]))
        go_round
        case rel => exact ⟨c + 1, by omega, by go_num, HF⟩
        case measure => simp [intOf]; omega
    · obtain rfl : c = 6 := by omega
      have HF := Lib.hid (show codeInB n = hIn (scoresI n) by rw [HAL.out, hp.out]; simp [hIn, rowB_scores])
      go_wp2_with fail
      refine (l3Scores_calls n _).mono ?_
      rintro e w1 ⟨v, rfl, o1, b1⟩
      obtain ⟨A, c, rfl⟩ := o1.slice
      go_wp2_with fail
      refine (sHexIn_calls A c (scoresI n) _ o1.rds o1.len_le).mono ?_
      rintro e w2 ⟨rfl, b2⟩
      go_wp2_with fail
      go_ret
      exact ⟨ret_b HF.out.symm, b1.trans (b2.mono b1.size)⟩
theorem sCodeIn_calls (n : Int) (w : World) :
    Calls Tryz.prog 60 #[.int .i64 n] w fun e w' => e = .returned (.bool (cIn n)) ∧ Below w.heap.size w w' := by
  rcases hb : wordB n with _ | _
  · have hn := (wordB_no n).1 hb
    rw [show cIn n = false by simp [cIn, hb]]
    clear hb
    go_enter Tryz.func60, Tryz.ntmps60
    go_wp2_with (go_at_call 100; refine (sWordValid_no _ _ hn).mono ?_; rintro e w' ⟨rfl, rfl⟩)
    go_ret
    exact ⟨rfl, Below.refl _ _⟩
  · have hn := (wordB_iff n).1 hb
    rw [show cIn n = codeInB n by simp [cIn, hb]]
    clear hb
    go_enter Tryz.func60, Tryz.ntmps60
    go_wp2_with (first
      | (go_at_call 100; refine (sWordValid_ok _ _ hn.1 hn.2).mono ?_; rintro e w' ⟨rfl, rfl⟩)
      | (go_at_call 101; refine (l3In_calls _ _ hn.1 hn.2).mono ?_; rintro e w1 ⟨rfl, b1⟩))
    go_ret
    exact ⟨rfl, b1⟩
end Go.Proofs.YtiodikflmijhkaaGreatDoor
end

section
namespace Go.Proofs.YtiodikflmijhkaaGreatDoor
open Go.RowKit
set_option linter.unusedVariables false

theorem wof_snoc (xs : List Int) (x : Int) : wof (xs ++ [x]) = addPl (wof xs) x := by unfold wof; rw [List.foldl_append]; rfl
theorem wof_char (n : Nat) : ∀ (xs : List Int) (T : Int), xs.length = n → wof xs = some T → IsW T ∧ xs.Nodup ∧ (∀ x ∈ xs, 0 ≤ x ∧ x ≤ 23) ∧ wt T = xs.length ∧ ∀ q, 0 ≤ q → bitI T q = if q ∈ xs then 1 else 0 := by
  induction n with
  | zero =>
    intro xs T hl h
    obtain rfl := List.eq_nil_of_length_eq_zero hl
    obtain rfl : (0 : Int) = T := by simpa [wof] using h
    exact ⟨⟨by omega, by omega⟩, by simp, by simp, by decide, fun q _ => by simp [bitI]⟩
  | succ n ih =>
    intro xs T hl h
    rcases List.eq_nil_or_concat xs with rfl | ⟨L, x, rfl⟩
    · simp at hl
    · rw [List.concat_eq_append] at hl h ⊢
      rw [wof_snoc] at h
      rcases hL : wof L with _ | S
      · rw [hL] at h; simp [addPl] at h
      · rw [hL] at h
        obtain ⟨⟨s0, s1⟩, hn, hr, hw, hb⟩ := ih L S (by simpa using hl) hL
        simp only [addPl] at h
        split at h
        · rename_i hc
          obtain ⟨x0, x1, xb⟩ := hc
          obtain rfl : S + powI x = T := by simpa using h
          have hxL : x ∉ L := fun hm => by have := hb x x0; rw [if_pos hm] at this; omega
          have hra := addPl_range S x s0 s1 x0 x1 xb
          refine ⟨hra, ?_, ?_, ?_, ?_⟩
          · rw [List.nodup_append]
            exact ⟨hn, by simp, fun a ha b hbm e => by simp at hbm; subst hbm; subst e; exact hxL ha⟩
          · intro y hy
            rcases List.mem_append.1 hy with h1 | h1
            · exact hr y h1
            · simp at h1; subst h1; exact ⟨x0, x1⟩
          · rw [wt_addp S x s0 x0 x1 xb, hw]; simp
          · intro q hq
            rw [bit_add S x q s0 x0 hq xb, hb q hq]
            by_cases e : q = x
            · subst e; simp
            · simp [e]
        · simp at h
end Go.Proofs.YtiodikflmijhkaaGreatDoor
end

section
namespace Go.Proofs.YtiodikflmijhkaaGreatDoor
open Go.RowKit
set_option linter.unusedVariables false
attribute [local irreducible] cN syn

def natP (xs : List Int) : List Nat := xs.map Int.toNat
def intP (P : List Nat) : List Int := P.map fun (x : Nat) => (x : Int)
def permB (xs : List Int) : Bool := decide (xs.length = 24) && (wof xs).isSome
theorem intP_len (P : List Nat) : (intP P).length = P.length := by simp [intP]
theorem natP_len (xs : List Int) : (natP xs).length = xs.length := by simp [natP]
theorem intP_get (P : List Nat) (i : Nat) : (intP P).getD i 0 = ((P.getD i 0 : Nat) : Int) := by
  by_cases h : i < P.length
  · simp [intP, h]
  · simp [intP, List.getD, List.getElem?_eq_none (show P.length ≤ i by omega)]
theorem natP_intP (P : List Nat) : natP (intP P) = P := by
  unfold natP intP
  rw [List.map_map]
  exact (List.map_congr_left fun x _ => by simp).trans (List.map_id P)
theorem permB_perm {xs : List Int} (h : permB xs = true) : PermN (natP xs) ∧ intP (natP xs) = xs := by
  simp only [permB, Bool.and_eq_true, decide_eq_true_eq, Option.isSome_iff_exists] at h
  obtain ⟨hl, t, ht⟩ := h
  obtain ⟨_, hn, hr, _, _⟩ := wof_char _ xs t rfl ht
  have e : intP (natP xs) = xs := by
    unfold natP intP
    rw [List.map_map]
    refine (List.map_congr_left fun x hx => ?_).trans (List.map_id xs)
    have := hr x hx
    simp only [Function.comp, id]
    omega
  refine ⟨⟨by rw [natP_len]; exact hl, ?_, fun x hx => ?_⟩, e⟩
  · rw [← e] at hn
    refine List.nodup_iff_pairwise_ne.2 (List.Pairwise.of_map (S := fun a b : Int => a ≠ b) (fun (x : Nat) => (x : Int)) (fun a b hab e => hab (by rw [e])) ?_)
    exact List.nodup_iff_pairwise_ne.1 hn
  · obtain ⟨y, hy, rfl⟩ := List.mem_map.1 hx
    have := hr y hy
    omega
theorem permB_len {xs : List Int} (h : permB xs = true) : xs.length = 24 := by
  simp only [permB, Bool.and_eq_true, decide_eq_true_eq] at h
  exact h.1
theorem permB_at {xs : List Int} (h : permB xs = true) (i : Nat) (hi : i < 24) : xs.getD i 0 = (((natP xs).getD i 0 : Nat) : Int) ∧ (natP xs).getD i 0 < 24 := by
  obtain ⟨hP, e⟩ := permB_perm h
  refine ⟨?_, hP.get i hi⟩
  rw [← intP_get, e]
theorem wof_some : ∀ (n : Nat) (xs : List Int), xs.length = n → xs.Nodup → (∀ x ∈ xs, 0 ≤ x ∧ x ≤ 23) → ∃ t, wof xs = some t := by
  intro n
  induction n with
  | zero =>
    intro xs hl _ _
    obtain rfl := List.eq_nil_of_length_eq_zero hl
    exact ⟨0, rfl⟩
  | succ n ih =>
    intro xs hl hn hr
    rcases List.eq_nil_or_concat xs with rfl | ⟨L, x, rfl⟩
    · simp at hl
    · rw [List.concat_eq_append] at hl hn hr ⊢
      have hn' := List.nodup_append.1 hn
      obtain ⟨t, ht⟩ := ih L (by simpa using hl) hn'.1 (fun y hy => hr y (List.mem_append_left _ hy))
      obtain ⟨_, _, _, _, hb⟩ := wof_char _ L t rfl ht
      have hx := hr x (by simp)
      have hnx : x ∉ L := fun hx' => hn'.2.2 x hx' x (by simp) rfl
      rw [wof_snoc, ht]
      refine ⟨t + powI x, ?_⟩
      simp only [addPl]
      rw [if_pos ⟨hx.1, hx.2, by rw [hb x hx.1, if_neg hnx]⟩]
theorem permB_of {P : List Nat} (h : PermN P) : permB (intP P) = true := by
  have hn : (intP P).Nodup := by
    refine List.nodup_iff_pairwise_ne.2 (List.pairwise_map.2 ((List.nodup_iff_pairwise_ne.1 h.2.1).imp fun hab e => hab ?_))
    exact Int.ofNat_inj.1 e
  obtain ⟨t, ht⟩ := wof_some _ (intP P) rfl hn (fun x hx => by
    obtain ⟨y, hy, rfl⟩ := List.mem_map.1 hx
    have := h.2.2 y hy
    omega)
  simp [permB, intP_len, h.1, ht]

def plTurned (xs : List Int) : List Int × Bool := if permB xs then (intP (turnN (natP xs)), true) else ([], false)
def keepsB (xs : List Int) : Bool := permB xs && (List.range 12).all fun k => syn (movN (natP xs) (cN (2 ^ k))) == 0

set_option maxHeartbeats 400000 in
theorem sPermValid_calls (A : Option Addr) (c : Nat) (xs : List Int) (w : World) (ha : Rds w w.heap.size .i64 A xs) (hx : xs.length ≤ maxLen) :
    Calls Tryz.prog 20 #[.slice A xs.length c] w fun e w' => e = .returned (.bool (permB xs)) ∧ w = w' := by
  unfold maxLen at hx
  by_cases hl : xs.length = 24
  · have hp : ∀ o, wof xs = o → permB xs = o.isSome := fun o e => by simp [permB, hl, e]
    have HP := Lib.hid hp
    have hl1 : ((xs.length : Int) != 24) = false := by simp [hl]
    have HL := Lib.hid hl
    clear hp hl
    go_enter Tryz.func20, Tryz.ntmps20
    go_wp2_with fail
    go_loopw [3, 4] (fun t i wr => ∃ (k : Nat) (T : Int), k ≤ 24 ∧ i = .int .i64 k ∧ t = .int .i64 T ∧ 0 ≤ T ∧ T ≤ 16777215 ∧ Hid (wof (xs.take k) = some T) ∧ w = wr) (fun _ i _ => 24 - (intOf i).toNat)
    case atStart => exact ⟨0, 0, Nat.zero_le _, rfl, rfl, by omega, by omega, Lib.hid rfl, rfl⟩
    case round =>
      obtain ⟨k, T, hk, rfl, rfl, hT0, hT1, ht, hww⟩ := hrel
      subst hww
      by_cases hlt : k < 24
      · obtain ⟨b1, o1, rfl, _, c1⟩ := ha.at_ (j := k) (by have := HL.out; omega)
        have hs := wof_succ xs k (by have := HL.out; omega)
        rw [ht.out] at hs
        have hkl : (k : Int) < (xs.length : Int) := by have := HL.out; omega
        generalize xs.getD k 0 = p at *
        by_cases hp : 0 ≤ p ∧ p ≤ 23
        · obtain ⟨hp0, hp1⟩ := hp
          by_cases hb : bitI T p = 0
          · have hs' : wof (xs.take (k + 1)) = some (T + powI p) := by rw [hs]; simp [addPl, hp0, hp1, hb]
            have hr := addPl_range T p hT0 hT1 hp0 hp1 hb
            have HS := Lib.hid hs'
            have hq := pow_val p hp0 hp1
            have HW := Lib.hid (wrap_pow T p hr.1 hr.2 hq.1 hq.2)
            have hbb : (bitI T p == 1) = false := by rw [hb]; rfl
            clear hs hs' ht hb hq
            go_wp2_with (first
              | (go_at_call 44; refine (l6In_ok _ _ _ _ (by omega) (by omega)).mono ?_; rintro e w' ⟨rfl, rfl⟩)
              | (go_at_call 45; refine (l1Bit_calls _ _ _ (by omega) (by omega)).mono ?_; rintro e w' ⟨rfl, rfl⟩))
            go_roundw
            case rel => exact ⟨k + 1, T + powI p, by omega, by go_num, by rw [HW.out], hr.1, hr.2, HS, by first | exact rfl | trivial⟩
            case measure => simp [intOf]; omega
          · have hs' : wof xs = none := wof_none xs (k + 1) (by rw [hs]; simp [addPl, hb])
            have HS := Lib.hid hs'
            have hbb : (bitI T p == 1) = true := by rcases bitI_01 T p with h | h <;> simp_all
            clear hs hs' ht hb
            go_wp2_with (first
              | (go_at_call 44; refine (l6In_ok _ _ _ _ (by omega) (by omega)).mono ?_; rintro e w' ⟨rfl, rfl⟩)
              | (go_at_call 45; refine (l1Bit_calls _ _ _ (by omega) (by omega)).mono ?_; rintro e w' ⟨rfl, rfl⟩))
            go_ret
            exact ⟨by rw [HP.out _ HS.out]; rfl, rfl⟩
        · have hs' : wof xs = none := wof_none xs (k + 1) (by rw [hs]; simp only [addPl]; rw [if_neg (by omega)])
          have HS := Lib.hid hs'
          have hp' : p < 0 ∨ 23 < p := by omega
          clear hs hs' ht hp
          go_wp2_with (go_at_call 44; refine (l6In_no _ _ _ _ hp').mono ?_; rintro e w' ⟨rfl, rfl⟩)
          go_ret
          exact ⟨by rw [HP.out _ HS.out]; rfl, rfl⟩
      · have hs' : wof xs = some T := by have := ht.out; rwa [List.take_of_length_le (by have := HL.out; omega)] at this
        have HS := Lib.hid hs'
        clear hs' ht
        obtain rfl : k = 24 := by omega
        go_wp2
        go_ret
        exact ⟨by rw [HP.out _ HS.out]; rfl, rfl⟩
  · have hp : permB xs = false := by simp [permB, hl]
    have HP := Lib.hid hp
    have hl1 : ((xs.length : Int) != 24) = true := by simp; omega
    clear hp hl
    go_enter Tryz.func20, Tryz.ntmps20
    go_wp2_with fail
    go_ret
    exact ⟨by rw [HP.out]; rfl, rfl⟩
end Go.Proofs.YtiodikflmijhkaaGreatDoor
end

section
namespace Go.Proofs.YtiodikflmijhkaaGreatDoor
open Go.RowKit
set_option linter.unusedVariables false

/-- The cells of a list of numbers. -/
def VL (L : List Int) : Array Value := (L.map (Value.int .i64)).toArray
def z24 : List Int := List.replicate 24 0
theorem VL_size (L : List Int) : (VL L).size = L.length := by simp [VL]
theorem VL_at {w : World} {g j : Nat} {t : TypeId} (xs : List Int) (hj : j < xs.length) (hg : w.heap[g]? = some (.cells (VL xs) t (0, 0))) : w.cell? ⟨g, j, none⟩ = some (.int .i64 (xs.getD j 0)) := by
  rw [Lib.cell_of_heap hg]
  simp [VL, hj]
theorem VL_set {w : World} {g j : Nat} {t : TypeId} (xs : List Int) (x : Int) (hg : w.heap[g]? = some (.cells (VL xs) t (0, 0))) : (w.setCell ⟨g, j, none⟩ (.int .i64 x)).heap[g]? = some (.cells (VL (xs.set j x)) t (0, 0)) := by
  have := heap_setCell_same w g j (VL xs) t (.int .i64 x) hg
  unfold VL at this ⊢
  rw [List.setIfInBounds_toArray, ← List.map_set] at this
  exact this
theorem VL_all (L : List Int) : (VL L).all (·.oneCell') = true := by
  rw [Array.all_eq_true_iff_forall_mem]
  intro x hx
  simp [VL] at hx
  obtain ⟨a, _, rfl⟩ := hx
  rfl
theorem bel_row {w V : World} {g : Nat} {T : Array Value} (h : Below w.heap.size w V) (hg : w.heap.size ≤ g) : Below w.heap.size w (V.setRow g T) :=
  h.trans ⟨rfl, rfl, rfl, by simp, fun q hq => setRow_other V g q T (by omega)⟩
theorem list24 (L : List Int) (h : L.length = 24) : ∃ x0 x1 x2 x3 x4 x5 x6 x7 x8 x9 x10 x11 x12 x13 x14 x15 x16 x17 x18 x19 x20 x21 x22 x23, L = [x0, x1, x2, x3, x4, x5, x6, x7, x8, x9, x10, x11, x12, x13, x14, x15, x16, x17, x18, x19, x20, x21, x22, x23] := by
  match L, h with
  | [x0, x1, x2, x3, x4, x5, x6, x7, x8, x9, x10, x11, x12, x13, x14, x15, x16, x17, x18, x19, x20, x21, x22, x23], _ => exact ⟨x0, x1, x2, x3, x4, x5, x6, x7, x8, x9, x10, x11, x12, x13, x14, x15, x16, x17, x18, x19, x20, x21, x22, x23, rfl⟩
theorem wrap_i64_of (n : Int) (h0 : -9223372036854775808 ≤ n) (h1 : n < 9223372036854775808) : IntKind.i64.wrap n = n := by rw [IntKind.wrap_i64]; omega
theorem wrap64_of (n : Int) (h0 : -9223372036854775808 ≤ n) (h1 : n < 9223372036854775808) : wrap64 n = n := by unfold wrap64; omega
theorem two_heapV (w : World) (o0 o1 : Obj) : ((w.alloc o0).alloc o1).heap[w.heap.size]? = some o0 ∧ ((w.alloc o0).alloc o1).heap[w.heap.size + 1]? = some o1 ∧ Below w.heap.size w ((w.alloc o0).alloc o1) := by
  refine ⟨?_, ?_, ((Below.refl _ w).alloc (Nat.le_refl _) _).alloc (by simp) _⟩
  · exact (Below.heap_alloc _ _ _ (by simp)).trans (heap_alloc_new w _)
  · have := heap_alloc_new (w.alloc o0) o1
    rw [alloc_sz] at this
    exact this
theorem three_heap (w : World) (o0 o1 o2 : Obj) : (((w.alloc o0).alloc o1).alloc o2).heap[w.heap.size]? = some o0 ∧ (((w.alloc o0).alloc o1).alloc o2).heap[w.heap.size + 1]? = some o1 ∧ (((w.alloc o0).alloc o1).alloc o2).heap[w.heap.size + 2]? = some o2 ∧ Below w.heap.size w (((w.alloc o0).alloc o1).alloc o2) := by
  refine ⟨?_, ?_, ?_, (((Below.refl _ w).alloc (Nat.le_refl _) _).alloc (by simp) _).alloc (by simp; omega) _⟩
  · exact (Below.heap_alloc _ _ _ (by simp; try omega)).trans ((Below.heap_alloc _ _ _ (by simp; try omega)).trans (heap_alloc_new w _))
  · have := heap_alloc_new (w.alloc o0) o1
    rw [alloc_sz] at this
    exact (Below.heap_alloc _ _ _ (by simp; try omega)).trans this
  · have := heap_alloc_new ((w.alloc o0).alloc o1) o2
    rw [alloc_sz, alloc_sz] at this
    exact this
/-- The first k of one list, and the others of another one. -/
def mixL (ts xs : List Int) (k : Nat) : List Int := ts.take k ++ xs.drop k
theorem mixL_len (ts xs : List Int) (k : Nat) (h1 : ts.length = 24) (h2 : xs.length = 24) (hk : k ≤ 24) : (mixL ts xs k).length = 24 := by simp [mixL]; omega
theorem mixL_zero (ts xs : List Int) : mixL ts xs 0 = xs := by simp [mixL]
theorem mixL_all (ts xs : List Int) (h1 : ts.length = 24) (h2 : xs.length = 24) : mixL ts xs 24 = ts := by
  unfold mixL
  rw [List.take_of_length_le (by omega), List.drop_of_length_le (by omega), List.append_nil]
theorem mixL_set (ts xs : List Int) (k : Nat) (h1 : ts.length = 24) (h2 : xs.length = 24) (hk : k < 24) : (mixL ts xs k).set k (ts.getD k 0) = mixL ts xs (k + 1) := by
  unfold mixL
  have hl : (ts.take k).length = k := by simp; omega
  have e : ts.getD k 0 = ts[k]'(by omega) := by simp [show k < ts.length by omega]
  rw [List.set_append_right _ _ (by omega), hl, Nat.sub_self, List.drop_eq_getElem_cons (show k < xs.length by omega), List.set_cons_zero, e, List.take_succ_eq_append_getElem (show k < ts.length by omega), List.append_assoc, List.singleton_append]
/-- A cell of the array is set. -/
theorem row_set {w V X : World} {g j : Nat} {t0 : TypeId} {cs Z : List Int} {t : Int} (h3 : V.heap[g]? = some (.cells (VL cs) t0 (0, 0))) (hg : w.heap.size ≤ g) (hB : Below w.heap.size w V) (hZ : cs.set j t = Z)
    (hX : X.heap = (V.setCell ⟨g, j, none⟩ (.int .i64 t)).heap) (hX2 : X.os = V.os ∧ X.tape = V.tape ∧ X.output = V.output) :
    X.heap[g]? = some (.cells (VL Z) t0 (0, 0)) ∧ (∀ q, q ≠ g → X.heap[q]? = V.heap[q]?) ∧ Below w.heap.size w X := by
  have k1 : ∀ q, q ≠ g → X.heap[q]? = V.heap[q]? := fun q hq => by rw [hX]; exact Below.heap_setCell V _ _ q hq
  have a3 := VL_set (j := j) cs t h3
  rw [hZ, ← hX] at a3
  have b0 : Below w.heap.size V (V.setCell ⟨g, j, none⟩ (.int .i64 t)) := (Below.refl _ V).setCell (show w.heap.size ≤ g from hg) _
  exact ⟨a3, k1, hB.trans ⟨hX2.1, hX2.2.1, hX2.2.2, by rw [hX]; exact b0.size, fun q hq => by rw [hX]; exact b0.block q hq⟩⟩
end Go.Proofs.YtiodikflmijhkaaGreatDoor
end
