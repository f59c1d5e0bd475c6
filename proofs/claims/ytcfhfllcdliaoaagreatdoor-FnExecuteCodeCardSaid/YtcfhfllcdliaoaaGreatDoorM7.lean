/- Ways to choose, step by step, as the program and its model count them; the rank of a list of places. -/
import Derived.Test.YtcfhfllcdliaoaaGreatDoorP1
namespace Go.Proofs.YtcfhfllcdliaoaaGreatDoor
set_option linter.unusedVariables false

def chI (n : Int) : Nat → Int
  | 0 => 1
  | i + 1 => chI n i * (n - i) / ((i : Int) + 1)
def chS (n k : Int) : Nat → Int
  | 0 => 1
  | i + 1 => chS n k i * (n - k + ((i : Int) + 1)) / ((i : Int) + 1)
theorem chI_all : ∀ n : Fin 24, ∀ i : Fin 25, 0 ≤ chI (n.val : Int) i.val ∧ chI (n.val : Int) i.val ≤ 1352078 ∧ 0 ≤ chI (n.val : Int) i.val * ((n.val : Int) - (i.val : Int)) ∧ chI (n.val : Int) i.val * ((n.val : Int) - (i.val : Int)) ≤ 40000000 := by decide +kernel
theorem chI_range (n : Int) (i : Nat) (h0 : 0 ≤ n) (h1 : n ≤ 23) (h2 : i ≤ 24) : 0 ≤ chI n i ∧ chI n i ≤ 1352078 ∧ 0 ≤ chI n i * (n - i) ∧ chI n i * (n - i) ≤ 40000000 := by
  obtain ⟨m, rfl⟩ := Int.eq_ofNat_of_zero_le h0
  exact chI_all ⟨m, by omega⟩ ⟨i, by omega⟩
theorem chS_all : ∀ n : Fin 24, ∀ k : Fin 25, k.val ≤ n.val → (∀ i : Fin 25, i.val ≤ k.val → 0 ≤ chS (n.val : Int) (k.val : Int) i.val ∧ chS (n.val : Int) (k.val : Int) i.val ≤ 1352078 ∧
    0 ≤ chS (n.val : Int) (k.val : Int) i.val * ((n.val : Int) - (k.val : Int) + ((i.val : Int) + 1)) ∧ chS (n.val : Int) (k.val : Int) i.val * ((n.val : Int) - (k.val : Int) + ((i.val : Int) + 1)) ≤ 40000000) := by decide +kernel
theorem chS_range (n k : Int) (i : Nat) (h0 : 0 ≤ k) (h1 : n ≤ 23) (hk : k ≤ n) (h2 : (i : Int) ≤ k) : 0 ≤ chS n k i ∧ chS n k i ≤ 1352078 ∧ 0 ≤ chS n k i * (n - k + ((i : Int) + 1)) ∧ chS n k i * (n - k + ((i : Int) + 1)) ≤ 40000000 := by
  obtain ⟨q, rfl⟩ := Int.eq_ofNat_of_zero_le h0
  obtain ⟨m, rfl⟩ := Int.eq_ofNat_of_zero_le (show 0 ≤ n by omega)
  exact chS_all ⟨m, by omega⟩ ⟨q, by omega⟩ (by show q ≤ m; omega) ⟨i, by omega⟩ (by show i ≤ q; omega)
theorem ch_same_all : ∀ n : Fin 24, ∀ k : Fin 25, (if k.val ≤ n.val then chS (n.val : Int) (k.val : Int) k.val else 0) = chI (n.val : Int) k.val := by decide +kernel
theorem ch_same (n : Int) (k : Nat) (h0 : 0 ≤ n) (h1 : n ≤ 23) (h2 : k ≤ 24) : (if (k : Int) ≤ n then chS n k k else 0) = chI n k := by
  obtain ⟨m, rfl⟩ := Int.eq_ofNat_of_zero_le h0
  have := ch_same_all ⟨m, by omega⟩ ⟨k, by omega⟩
  simp only [Int.ofNat_le]
  exact this

/-- The rank of the first k of a list of places. -/
def rkT (xs : List Nat) : Nat → Int
  | 0 => 0
  | k + 1 => rkT xs k + chI ((xs.getD k 0 : Nat) : Int) (k + 1)
def rk (xs : List Nat) : Int := rkT xs xs.length
theorem rkT_ext (xs ys : List Nat) (k : Nat) (h : ∀ j, j < k → xs.getD j 0 = ys.getD j 0) : rkT xs k = rkT ys k := by
  induction k with
  | zero => rfl
  | succ k ih => simp only [rkT]; rw [ih (fun j hj => h j (by omega)), h k (by omega)]
theorem rk_snoc (pre : List Nat) (x : Nat) : rk (pre ++ [x]) = rk pre + chI (x : Int) (pre.length + 1) := by
  unfold rk
  rw [List.length_append, List.length_singleton]
  simp only [rkT]
  rw [rkT_ext (pre ++ [x]) pre pre.length (fun j hj => by simp [List.getElem?_append_left hj])]
  simp
theorem rkT_range (xs : List Nat) (hx : ∀ x ∈ xs, x < 24) (k : Nat) (hk : k ≤ xs.length) (h24 : k ≤ 24) : 0 ≤ rkT xs k ∧ rkT xs k ≤ 1352078 * k := by
  induction k with
  | zero => simp [rkT]
  | succ k ih =>
    have := ih (by omega) (by omega)
    have hm : xs.getD k 0 < 24 := by
      rw [List.getD_eq_getElem?_getD, List.getElem?_eq_getElem (by omega)]
      exact hx _ (List.getElem_mem _)
    have := chI_range ((xs.getD k 0 : Nat) : Int) (k + 1) (by omega) (by omega) (by omega)
    simp only [rkT]
    omega
end Go.Proofs.YtcfhfllcdliaoaaGreatDoor
