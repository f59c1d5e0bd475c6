/- Permutations: the answers of chapter 7 as plain functions of lists; which lists are permutations; the model's PermValid. -/
import Derived.Test.YtiodikflmijhkaaW7
import Derived.Test.YtiodikflmijhkaaM32
import Derived.Test.YtiodikflmijhkaaQ4
namespace Go.Proofs.Ytiodikflmijhkaa
open Go.RowKit
set_option linter.unusedVariables false
attribute [local irreducible] cN syn

def natP (xs : List Int) : List Nat := xs.map Int.toNat
def intP (P : List Nat) : List Int := P.map fun (x : Nat) => (x : Int)
def permB (xs : List Int) : Bool := decide (xs.length = 24) && (wof xs).isSome
theorem intP_len (P : List Nat) : (intP P).length = P.length := by simp [intP]
theorem natP_len (xs : List Int) : (natP xs).length = xs.length := by simp [natP]
theorem intP_get (P : List Nat) (i : Nat) : (intP P).getD i 0 = ((P.getD i 0 : Nat) : Int) := by
  by_cases h : i < P.length
  · simp [intP, h]
  · simp [intP, List.getD, List.getElem?_eq_none (show P.length ≤ i by omega)]
theorem natP_intP (P : List Nat) : natP (intP P) = P := by
  unfold natP intP
  rw [List.map_map]
  exact (List.map_congr_left fun x _ => by simp).trans (List.map_id P)
theorem permB_perm {xs : List Int} (h : permB xs = true) : PermN (natP xs) ∧ intP (natP xs) = xs := by
  simp only [permB, Bool.and_eq_true, decide_eq_true_eq, Option.isSome_iff_exists] at h
  obtain ⟨hl, t, ht⟩ := h
  obtain ⟨_, hn, hr, _, _⟩ := wof_char _ xs t rfl ht
  have e : intP (natP xs) = xs := by
    unfold natP intP
    rw [List.map_map]
    refine (List.map_congr_left fun x hx => ?_).trans (List.map_id xs)
    have := hr x hx
    simp only [Function.comp, id]
    omega
  refine ⟨⟨by rw [natP_len]; exact hl, ?_, fun x hx => ?_⟩, e⟩
  · rw [← e] at hn
    refine List.nodup_iff_pairwise_ne.2 (List.Pairwise.of_map (S := fun a b : Int => a ≠ b) (fun (x : Nat) => (x : Int)) (fun a b hab e => hab (by rw [e])) ?_)
    exact List.nodup_iff_pairwise_ne.1 hn
  · obtain ⟨y, hy, rfl⟩ := List.mem_map.1 hx
    have := hr y hy
    omega
theorem permB_len {xs : List Int} (h : permB xs = true) : xs.length = 24 := by
  simp only [permB, Bool.and_eq_true, decide_eq_true_eq] at h
  exact h.1
theorem permB_at {xs : List Int} (h : permB xs = true) (i : Nat) (hi : i < 24) : xs.getD i 0 = (((natP xs).getD i 0 : Nat) : Int) ∧ (natP xs).getD i 0 < 24 := by
  obtain ⟨hP, e⟩ := permB_perm h
  refine ⟨?_, hP.get i hi⟩
  rw [← intP_get, e]
theorem wof_some : ∀ (n : Nat) (xs : List Int), xs.length = n → xs.Nodup → (∀ x ∈ xs, 0 ≤ x ∧ x ≤ 23) → ∃ t, wof xs = some t := by
  intro n
  induction n with
  | zero =>
    intro xs hl _ _
    obtain rfl := List.eq_nil_of_length_eq_zero hl
    exact ⟨0, rfl⟩
  | succ n ih =>
    intro xs hl hn hr
    rcases List.eq_nil_or_concat xs with rfl | ⟨L, x, rfl⟩
    · simp at hl
    · rw [List.concat_eq_append] at hl hn hr ⊢
      have hn' := List.nodup_append.1 hn
      obtain ⟨t, ht⟩ := ih L (by simpa using hl) hn'.1 (fun y hy => hr y (List.mem_append_left _ hy))
      obtain ⟨_, _, _, _, hb⟩ := wof_char _ L t rfl ht
      have hx := hr x (by simp)
      have hnx : x ∉ L := fun hx' => hn'.2.2 x hx' x (by simp) rfl
      rw [wof_snoc, ht]
      refine ⟨t + powI x, ?_⟩
      simp only [addPl]
      rw [if_pos ⟨hx.1, hx.2, by rw [hb x hx.1, if_neg hnx]⟩]
theorem permB_of {P : List Nat} (h : PermN P) : permB (intP P) = true := by
  have hn : (intP P).Nodup := by
    refine List.nodup_iff_pairwise_ne.2 (List.pairwise_map.2 ((List.nodup_iff_pairwise_ne.1 h.2.1).imp fun hab e => hab ?_))
    exact Int.ofNat_inj.1 e
  obtain ⟨t, ht⟩ := wof_some _ (intP P) rfl hn (fun x hx => by
    obtain ⟨y, hy, rfl⟩ := List.mem_map.1 hx
    have := h.2.2 y hy
    omega)
  simp [permB, intP_len, h.1, ht]

def plTimes (xs ys : List Int) : List Int × Bool := if permB xs && permB ys then (intP (thenN (natP xs) (natP ys)), true) else ([], false)
def plTurned (xs : List Int) : List Int × Bool := if permB xs then (intP (turnN (natP xs)), true) else ([], false)
def wdB (w : Int) : Bool := decide (0 ≤ w ∧ w ≤ 16777215)
def plWord (xs : List Int) (w : Int) : Int × Bool := if permB xs && wdB w then (((movN (natP xs) w.toNat : Nat) : Int), true) else (0, false)
def cycI (xs : List Int) : List Int := (intP (rawC (natP xs))).mergeSort fun x y => decide (x ≤ y)
def plCycles (xs : List Int) : List Int × Bool := if permB xs then (cycI xs, true) else ([], false)
def lcmN (L : List Nat) : Nat := L.foldl Nat.lcm 1
def plOrder (xs : List Int) : Int × Bool := if permB xs then (((lcmN (rawC (natP xs)) : Nat) : Int), true) else (0, false)
def fixTo (P : List Nat) : Nat → Nat
  | 0 => 0
  | k + 1 => fixTo P k + if P.getD k 0 = k then 2 ^ k else 0
def plFixed (xs : List Int) : Int × Bool := if permB xs then (((fixTo (natP xs) 24 : Nat) : Int), true) else (0, false)
def keepsB (xs : List Int) : Bool := permB xs && (List.range 12).all fun k => syn (movN (natP xs) (cN (2 ^ k))) == 0

set_option maxHeartbeats 400000 in
theorem sPermValid_calls (A : Option Addr) (c : Nat) (xs : List Int) (w : World) (ha : Rds w w.heap.size .i64 A xs) (hx : xs.length ≤ maxLen) :
    Calls Try.prog 11 #[.slice A xs.length c] w fun e w' => e = .returned (.bool (permB xs)) ∧ w = w' := by
  unfold maxLen at hx
  by_cases hl : xs.length = 24
  · have hp : ∀ o, wof xs = o → permB xs = o.isSome := fun o e => by simp [permB, hl, e]
    have HP := Lib.hid hp
    have hl1 : ((xs.length : Int) != 24) = false := by simp [hl]
    have HL := Lib.hid hl
    clear hp hl
    go_enter Try.func11, Try.ntmps11
    go_wp2_with fail
    go_loopw [3, 4] (fun t i wr => ∃ (k : Nat) (T : Int), k ≤ 24 ∧ i = .int .i64 k ∧ t = .int .i64 T ∧ 0 ≤ T ∧ T ≤ 16777215 ∧ Hid (wof (xs.take k) = some T) ∧ w = wr) (fun _ i _ => 24 - (intOf i).toNat)
    case atStart => exact ⟨0, 0, Nat.zero_le _, rfl, rfl, by omega, by omega, Lib.hid rfl, rfl⟩
    case round =>
      obtain ⟨k, T, hk, rfl, rfl, hT0, hT1, ht, hww⟩ := hrel
      subst hww
      by_cases hlt : k < 24
      · obtain ⟨b1, o1, rfl, _, c1⟩ := ha.at_ (j := k) (by have := HL.out; omega)
        have hs := wof_succ xs k (by have := HL.out; omega)
        rw [ht.out] at hs
        have hkl : (k : Int) < (xs.length : Int) := by have := HL.out; omega
        generalize xs.getD k 0 = p at *
        by_cases hp : 0 ≤ p ∧ p ≤ 23
        · obtain ⟨hp0, hp1⟩ := hp
          by_cases hb : bitI T p = 0
          · have hs' : wof (xs.take (k + 1)) = some (T + powI p) := by rw [hs]; simp [addPl, hp0, hp1, hb]
            have hr := addPl_range T p hT0 hT1 hp0 hp1 hb
            have HS := Lib.hid hs'
            have hq := pow_val p hp0 hp1
            have HW := Lib.hid (wrap_pow T p hr.1 hr.2 hq.1 hq.2)
            have hbb : (bitI T p == 1) = false := by rw [hb]; rfl
            clear hs hs' ht hb hq
            go_wp2_with (first
              | (go_at_call 16; refine (l6In_ok _ _ _ _ (by omega) (by omega)).mono ?_; rintro e w' ⟨rfl, rfl⟩)
              | (go_at_call 17; refine (l1Bit_calls _ _ _ (by omega) (by omega)).mono ?_; rintro e w' ⟨rfl, rfl⟩))
            go_roundw
            case rel => exact ⟨k + 1, T + powI p, by omega, by go_num, by rw [HW.out], hr.1, hr.2, HS, by first | exact rfl | trivial⟩
            case measure => simp [intOf]; omega
          · have hs' : wof xs = none := wof_none xs (k + 1) (by rw [hs]; simp [addPl, hb])
            have HS := Lib.hid hs'
            have hbb : (bitI T p == 1) = true := by rcases bitI_01 T p with h | h <;> simp_all
            clear hs hs' ht hb
            go_wp2_with (first
              | (go_at_call 16; refine (l6In_ok _ _ _ _ (by omega) (by omega)).mono ?_; rintro e w' ⟨rfl, rfl⟩)
              | (go_at_call 17; refine (l1Bit_calls _ _ _ (by omega) (by omega)).mono ?_; rintro e w' ⟨rfl, rfl⟩))
            go_ret
            exact ⟨by rw [HP.out _ HS.out]; rfl, rfl⟩
        · have hs' : wof xs = none := wof_none xs (k + 1) (by rw [hs]; simp only [addPl]; rw [if_neg (by omega)])
          have HS := Lib.hid hs'
          have hp' : p < 0 ∨ 23 < p := by omega
          clear hs hs' ht hp
          go_wp2_with (go_at_call 16; refine (l6In_no _ _ _ _ hp').mono ?_; rintro e w' ⟨rfl, rfl⟩)
          go_ret
          exact ⟨by rw [HP.out _ HS.out]; rfl, rfl⟩
      · have hs' : wof xs = some T := by have := ht.out; rwa [List.take_of_length_le (by have := HL.out; omega)] at this
        have HS := Lib.hid hs'
        clear hs' ht
        obtain rfl : k = 24 := by omega
        go_wp2
        go_ret
        exact ⟨by rw [HP.out _ HS.out]; rfl, rfl⟩
  · have hp : permB xs = false := by simp [permB, hl]
    have HP := Lib.hid hp
    have hl1 : ((xs.length : Int) != 24) = true := by simp; omega
    clear hp hl
    go_enter Try.func11, Try.ntmps11
    go_wp2_with fail
    go_ret
    exact ⟨by rw [HP.out]; rfl, rfl⟩
end Go.Proofs.Ytiodikflmijhkaa
