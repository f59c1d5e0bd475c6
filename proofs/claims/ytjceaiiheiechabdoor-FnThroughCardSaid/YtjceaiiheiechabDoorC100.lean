/- Permutations: the answers of chapter 7 as plain functions of lists; which lists are permutations; the model's PermValid. -/
import Derived.Test.YtjceaiiheiechabDoorW7
import Derived.Test.YtjceaiiheiechabDoorM32
import Derived.Test.YtjceaiiheiechabDoorQ4
namespace Go.Proofs.YtjceaiiheiechabDoor
open Go.RowKit
set_option linter.unusedVariables false
attribute [local irreducible] cN syn

def natP (xs : List Int) : List Nat := xs.map Int.toNat
def intP (P : List Nat) : List Int := P.map fun (x : Nat) => (x : Int)
def permB (xs : List Int) : Bool := decide (xs.length = 24) && (wof xs).isSome
theorem intP_len (P : List Nat) : (intP P).length = P.length := by simp [intP]
theorem natP_len (xs : List Int) : (natP xs).length = xs.length := by simp [natP]
theorem intP_get (P : List Nat) (i : Nat) : (intP P).getD i 0 = ((P.getD i 0 : Nat) : Int) := by
  by_cases h : i < P.length
  · simp [intP, h]
  · simp [intP, List.getD, List.getElem?_eq_none (show P.length ≤ i by omega)]
theorem natP_intP (P : List Nat) : natP (intP P) = P := by
  unfold natP intP
  rw [List.map_map]
  exact (List.map_congr_left fun x _ => by simp).trans (List.map_id P)
theorem permB_perm {xs : List Int} (h : permB xs = true) : PermN (natP xs) ∧ intP (natP xs) = xs := by
  simp only [permB, Bool.and_eq_true, decide_eq_true_eq, Option.isSome_iff_exists] at h
  obtain ⟨hl, t, ht⟩ := h
  obtain ⟨_, hn, hr, _, _⟩ := wof_char _ xs t rfl ht
  have e : intP (natP xs) = xs := by
    unfold natP intP
    rw [List.map_map]
    refine (List.map_congr_left fun x hx => ?_).trans (List.map_id xs)
    have := hr x hx
    simp only [Function.comp, id]
    omega
  refine ⟨⟨by rw [natP_len]; exact hl, ?_, fun x hx => ?_⟩, e⟩
  · rw [← e] at hn
    refine List.nodup_iff_pairwise_ne.2 (List.Pairwise.of_map (S := fun a b : Int => a ≠ b) (fun (x : Nat) => (x : Int)) (fun a b hab e => hab (by rw [e])) ?_)
    exact List.nodup_iff_pairwise_ne.1 hn
  · obtain ⟨y, hy, rfl⟩ := List.mem_map.1 hx
    have := hr y hy
    omega
theorem permB_len {xs : List Int} (h : permB xs = true) : xs.length = 24 := by
  simp only [permB, Bool.and_eq_true, decide_eq_true_eq] at h
  exact h.1
theorem permB_at {xs : List Int} (h : permB xs = true) (i : Nat) (hi : i < 24) : xs.getD i 0 = (((natP xs).getD i 0 : Nat) : Int) ∧ (natP xs).getD i 0 < 24 := by
  obtain ⟨hP, e⟩ := permB_perm h
  refine ⟨?_, hP.get i hi⟩
  rw [← intP_get, e]
theorem wof_some : ∀ (n : Nat) (xs : List Int), xs.length = n → xs.Nodup → (∀ x ∈ xs, 0 ≤ x ∧ x ≤ 23) → ∃ t, wof xs = some t := by
  intro n
  induction n with
  | zero =>
    intro xs hl _ _
    obtain rfl := List.eq_nil_of_length_eq_zero hl
    exact ⟨0, rfl⟩
  | succ n ih =>
    intro xs hl hn hr
    rcases List.eq_nil_or_concat xs with rfl | ⟨L, x, rfl⟩
    · simp at hl
    · rw [List.concat_eq_append] at hl hn hr ⊢
      have hn' := List.nodup_append.1 hn
      obtain ⟨t, ht⟩ := ih L (by simpa using hl) hn'.1 (fun y hy => hr y (List.mem_append_left _ hy))
      obtain ⟨_, _, _, _, hb⟩ := wof_char _ L t rfl ht
      have hx := hr x (by simp)
      have hnx : x ∉ L := fun hx' => hn'.2.2 x hx' x (by simp) rfl
      rw [wof_snoc, ht]
      refine ⟨t + powI x, ?_⟩
      simp only [addPl]
      rw [if_pos ⟨hx.1, hx.2, by rw [hb x hx.1, if_neg hnx]⟩]
theorem permB_of {P : List Nat} (h : PermN P) : permB (intP P) = true := by
  have hn : (intP P).Nodup := by
    refine List.nodup_iff_pairwise_ne.2 (List.pairwise_map.2 ((List.nodup_iff_pairwise_ne.1 h.2.1).imp fun hab e => hab ?_))
    exact Int.ofNat_inj.1 e
  obtain ⟨t, ht⟩ := wof_some _ (intP P) rfl hn (fun x hx => by
    obtain ⟨y, hy, rfl⟩ := List.mem_map.1 hx
    have := h.2.2 y hy
    omega)
  simp [permB, intP_len, h.1, ht]

def plTimes (xs ys : List Int) : List Int × Bool := if permB xs && permB ys then (intP (thenN (natP xs) (natP ys)), true) else ([], false)
def plTurned (xs : List Int) : List Int × Bool := if permB xs then (intP (turnN (natP xs)), true) else ([], false)
def wdB (w : Int) : Bool := decide (0 ≤ w ∧ w ≤ 16777215)
def plWord (xs : List Int) (w : Int) : Int × Bool := if permB xs && wdB w then (((movN (natP xs) w.toNat : Nat) : Int), true) else (0, false)
def cycI (xs : List Int) : List Int := (intP (rawC (natP xs))).mergeSort fun x y => decide (x ≤ y)
def plCycles (xs : List Int) : List Int × Bool := if permB xs then (cycI xs, true) else ([], false)
def lcmN (L : List Nat) : Nat := L.foldl Nat.lcm 1
def plOrder (xs : List Int) : Int × Bool := if permB xs then (((lcmN (rawC (natP xs)) : Nat) : Int), true) else (0, false)
def fixTo (P : List Nat) : Nat → Nat
  | 0 => 0
  | k + 1 => fixTo P k + if P.getD k 0 = k then 2 ^ k else 0
def plFixed (xs : List Int) : Int × Bool := if permB xs then (((fixTo (natP xs) 24 : Nat) : Int), true) else (0, false)
def keepsB (xs : List Int) : Bool := permB xs && (List.range 12).all fun k => syn (movN (natP xs) (cN (2 ^ k))) == 0

end Go.Proofs.YtjceaiiheiechabDoor
