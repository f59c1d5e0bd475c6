import Derived.Test.YtcfhfllcdliaoaaGreatDoorM11
import Derived.Laws.Rows
import Derived.Laws.Tables
import Derived.Laws.CopyOwn
import Derived.Test.YtcfhfllcdliaoaaGreatDoorW7
import Derived.Test.YtcfhfllcdliaoaaGreatDoorH1
import Derived.Test.YtcfhfllcdliaoaaGreatDoorQ4
import Derived.Maps.AppendAt
import Derived.Lib.LazyBuf
/- Lists of 24 numbers in arrays: the cells; boxes; a first part of one list and the rest of another. -/
namespace Go.Proofs.YtcfhfllcdliaoaaGreatDoor
open Go.RowKit
set_option linter.unusedVariables false

/-- The cells of a list of numbers. -/
def VL (L : List Int) : Array Value := (L.map (Value.int .i64)).toArray
def z24 : List Int := List.replicate 24 0
theorem VL_size (L : List Int) : (VL L).size = L.length := by simp [VL]
theorem VL_at {w : World} {g j : Nat} {t : TypeId} (xs : List Int) (hj : j < xs.length) (hg : w.heap[g]? = some (.cells (VL xs) t (0, 0))) : w.cell? ⟨g, j, none⟩ = some (.int .i64 (xs.getD j 0)) := by
  rw [Lib.cell_of_heap hg]
  simp [VL, hj]
theorem VL_set {w : World} {g j : Nat} {t : TypeId} (xs : List Int) (x : Int) (hg : w.heap[g]? = some (.cells (VL xs) t (0, 0))) : (w.setCell ⟨g, j, none⟩ (.int .i64 x)).heap[g]? = some (.cells (VL (xs.set j x)) t (0, 0)) := by
  have := heap_setCell_same w g j (VL xs) t (.int .i64 x) hg
  unfold VL at this ⊢
  rw [List.setIfInBounds_toArray, ← List.map_set] at this
  exact this
theorem VL_all (L : List Int) : (VL L).all (·.oneCell') = true := by
  rw [Array.all_eq_true_iff_forall_mem]
  intro x hx
  simp [VL] at hx
  obtain ⟨a, _, rfl⟩ := hx
  rfl
theorem bel_row {w V : World} {g : Nat} {T : Array Value} (h : Below w.heap.size w V) (hg : w.heap.size ≤ g) : Below w.heap.size w (V.setRow g T) :=
  h.trans ⟨rfl, rfl, rfl, by simp, fun q hq => setRow_other V g q T (by omega)⟩
theorem list24 (L : List Int) (h : L.length = 24) : ∃ x0 x1 x2 x3 x4 x5 x6 x7 x8 x9 x10 x11 x12 x13 x14 x15 x16 x17 x18 x19 x20 x21 x22 x23, L = [x0, x1, x2, x3, x4, x5, x6, x7, x8, x9, x10, x11, x12, x13, x14, x15, x16, x17, x18, x19, x20, x21, x22, x23] := by
  match L, h with
  | [x0, x1, x2, x3, x4, x5, x6, x7, x8, x9, x10, x11, x12, x13, x14, x15, x16, x17, x18, x19, x20, x21, x22, x23], _ => exact ⟨x0, x1, x2, x3, x4, x5, x6, x7, x8, x9, x10, x11, x12, x13, x14, x15, x16, x17, x18, x19, x20, x21, x22, x23, rfl⟩
theorem wrap_i64_of (n : Int) (h0 : -9223372036854775808 ≤ n) (h1 : n < 9223372036854775808) : IntKind.i64.wrap n = n := by rw [IntKind.wrap_i64]; omega
theorem wrap64_of (n : Int) (h0 : -9223372036854775808 ≤ n) (h1 : n < 9223372036854775808) : wrap64 n = n := by unfold wrap64; omega
theorem two_heapV (w : World) (o0 o1 : Obj) : ((w.alloc o0).alloc o1).heap[w.heap.size]? = some o0 ∧ ((w.alloc o0).alloc o1).heap[w.heap.size + 1]? = some o1 ∧ Below w.heap.size w ((w.alloc o0).alloc o1) := by
  refine ⟨?_, ?_, ((Below.refl _ w).alloc (Nat.le_refl _) _).alloc (by simp) _⟩
  · exact (Below.heap_alloc _ _ _ (by simp)).trans (heap_alloc_new w _)
  · have := heap_alloc_new (w.alloc o0) o1
    rw [alloc_sz] at this
    exact this
theorem three_heap (w : World) (o0 o1 o2 : Obj) : (((w.alloc o0).alloc o1).alloc o2).heap[w.heap.size]? = some o0 ∧ (((w.alloc o0).alloc o1).alloc o2).heap[w.heap.size + 1]? = some o1 ∧ (((w.alloc o0).alloc o1).alloc o2).heap[w.heap.size + 2]? = some o2 ∧ Below w.heap.size w (((w.alloc o0).alloc o1).alloc o2) := by
  refine ⟨?_, ?_, ?_, (((Below.refl _ w).alloc (Nat.le_refl _) _).alloc (by simp) _).alloc (by simp; omega) _⟩
  · exact (Below.heap_alloc _ _ _ (by simp; try omega)).trans ((Below.heap_alloc _ _ _ (by simp; try omega)).trans (heap_alloc_new w _))
  · have := heap_alloc_new (w.alloc o0) o1
    rw [alloc_sz] at this
    exact (Below.heap_alloc _ _ _ (by simp; try omega)).trans this
  · have := heap_alloc_new ((w.alloc o0).alloc o1) o2
    rw [alloc_sz, alloc_sz] at this
    exact this
/-- The first k of one list, and the others of another one. -/
def mixL (ts xs : List Int) (k : Nat) : List Int := ts.take k ++ xs.drop k
theorem mixL_len (ts xs : List Int) (k : Nat) (h1 : ts.length = 24) (h2 : xs.length = 24) (hk : k ≤ 24) : (mixL ts xs k).length = 24 := by simp [mixL]; omega
theorem mixL_zero (ts xs : List Int) : mixL ts xs 0 = xs := by simp [mixL]
theorem mixL_all (ts xs : List Int) (h1 : ts.length = 24) (h2 : xs.length = 24) : mixL ts xs 24 = ts := by
  unfold mixL
  rw [List.take_of_length_le (by omega), List.drop_of_length_le (by omega), List.append_nil]
theorem mixL_set (ts xs : List Int) (k : Nat) (h1 : ts.length = 24) (h2 : xs.length = 24) (hk : k < 24) : (mixL ts xs k).set k (ts.getD k 0) = mixL ts xs (k + 1) := by
  unfold mixL
  have hl : (ts.take k).length = k := by simp; omega
  have e : ts.getD k 0 = ts[k]'(by omega) := by simp [show k < ts.length by omega]
  rw [List.set_append_right _ _ (by omega), hl, Nat.sub_self, List.drop_eq_getElem_cons (show k < xs.length by omega), List.set_cons_zero, e, List.take_succ_eq_append_getElem (show k < ts.length by omega), List.append_assoc, List.singleton_append]
/-- A cell of the array is set. -/
theorem row_set {w V X : World} {g j : Nat} {t0 : TypeId} {cs Z : List Int} {t : Int} (h3 : V.heap[g]? = some (.cells (VL cs) t0 (0, 0))) (hg : w.heap.size ≤ g) (hB : Below w.heap.size w V) (hZ : cs.set j t = Z)
    (hX : X.heap = (V.setCell ⟨g, j, none⟩ (.int .i64 t)).heap) (hX2 : X.os = V.os ∧ X.tape = V.tape ∧ X.output = V.output) :
    X.heap[g]? = some (.cells (VL Z) t0 (0, 0)) ∧ (∀ q, q ≠ g → X.heap[q]? = V.heap[q]?) ∧ Below w.heap.size w X := by
  have k1 : ∀ q, q ≠ g → X.heap[q]? = V.heap[q]? := fun q hq => by rw [hX]; exact Below.heap_setCell V _ _ q hq
  have a3 := VL_set (j := j) cs t h3
  rw [hZ, ← hX] at a3
  have b0 : Below w.heap.size V (V.setCell ⟨g, j, none⟩ (.int .i64 t)) := (Below.refl _ V).setCell (show w.heap.size ≤ g from hg) _
  exact ⟨a3, k1, hB.trans ⟨hX2.1, hX2.2.1, hX2.2.2, by rw [hX]; exact b0.size, fun q hq => by rw [hX]; exact b0.block q hq⟩⟩
end Go.Proofs.YtcfhfllcdliaoaaGreatDoor
/- Permutations: the answers of chapter 7 as plain functions of lists; which lists are permutations; the model's PermValid. -/
namespace Go.Proofs.YtcfhfllcdliaoaaGreatDoor
open Go.RowKit
set_option linter.unusedVariables false
attribute [local irreducible] cN syn

def natP (xs : List Int) : List Nat := xs.map Int.toNat
def intP (P : List Nat) : List Int := P.map fun (x : Nat) => (x : Int)
def permB (xs : List Int) : Bool := decide (xs.length = 24) && (wof xs).isSome
theorem intP_len (P : List Nat) : (intP P).length = P.length := by simp [intP]
theorem natP_len (xs : List Int) : (natP xs).length = xs.length := by simp [natP]
theorem intP_get (P : List Nat) (i : Nat) : (intP P).getD i 0 = ((P.getD i 0 : Nat) : Int) := by
  by_cases h : i < P.length
  · simp [intP, h]
  · simp [intP, List.getD, List.getElem?_eq_none (show P.length ≤ i by omega)]
theorem natP_intP (P : List Nat) : natP (intP P) = P := by
  unfold natP intP
  rw [List.map_map]
  exact (List.map_congr_left fun x _ => by simp).trans (List.map_id P)
theorem permB_perm {xs : List Int} (h : permB xs = true) : PermN (natP xs) ∧ intP (natP xs) = xs := by
  simp only [permB, Bool.and_eq_true, decide_eq_true_eq, Option.isSome_iff_exists] at h
  obtain ⟨hl, t, ht⟩ := h
  obtain ⟨_, hn, hr, _, _⟩ := wof_char _ xs t rfl ht
  have e : intP (natP xs) = xs := by
    unfold natP intP
    rw [List.map_map]
    refine (List.map_congr_left fun x hx => ?_).trans (List.map_id xs)
    have := hr x hx
    simp only [Function.comp, id]
    omega
  refine ⟨⟨by rw [natP_len]; exact hl, ?_, fun x hx => ?_⟩, e⟩
  · rw [← e] at hn
    refine List.nodup_iff_pairwise_ne.2 (List.Pairwise.of_map (S := fun a b : Int => a ≠ b) (fun (x : Nat) => (x : Int)) (fun a b hab e => hab (by rw [e])) ?_)
    exact List.nodup_iff_pairwise_ne.1 hn
  · obtain ⟨y, hy, rfl⟩ := List.mem_map.1 hx
    have := hr y hy
    omega
theorem permB_len {xs : List Int} (h : permB xs = true) : xs.length = 24 := by
  simp only [permB, Bool.and_eq_true, decide_eq_true_eq] at h
  exact h.1
theorem permB_at {xs : List Int} (h : permB xs = true) (i : Nat) (hi : i < 24) : xs.getD i 0 = (((natP xs).getD i 0 : Nat) : Int) ∧ (natP xs).getD i 0 < 24 := by
  obtain ⟨hP, e⟩ := permB_perm h
  refine ⟨?_, hP.get i hi⟩
  rw [← intP_get, e]
theorem wof_some : ∀ (n : Nat) (xs : List Int), xs.length = n → xs.Nodup → (∀ x ∈ xs, 0 ≤ x ∧ x ≤ 23) → ∃ t, wof xs = some t := by
  intro n
  induction n with
  | zero =>
    intro xs hl _ _
    obtain rfl := List.eq_nil_of_length_eq_zero hl
    exact ⟨0, rfl⟩
  | succ n ih =>
    intro xs hl hn hr
    rcases List.eq_nil_or_concat xs with rfl | ⟨L, x, rfl⟩
    · simp at hl
    · rw [List.concat_eq_append] at hl hn hr ⊢
      have hn' := List.nodup_append.1 hn
      obtain ⟨t, ht⟩ := ih L (by simpa using hl) hn'.1 (fun y hy => hr y (List.mem_append_left _ hy))
      obtain ⟨_, _, _, _, hb⟩ := wof_char _ L t rfl ht
      have hx := hr x (by simp)
      have hnx : x ∉ L := fun hx' => hn'.2.2 x hx' x (by simp) rfl
      rw [wof_snoc, ht]
      refine ⟨t + powI x, ?_⟩
      simp only [addPl]
      rw [if_pos ⟨hx.1, hx.2, by rw [hb x hx.1, if_neg hnx]⟩]
theorem permB_of {P : List Nat} (h : PermN P) : permB (intP P) = true := by
  have hn : (intP P).Nodup := by
    refine List.nodup_iff_pairwise_ne.2 (List.pairwise_map.2 ((List.nodup_iff_pairwise_ne.1 h.2.1).imp fun hab e => hab ?_))
    exact Int.ofNat_inj.1 e
  obtain ⟨t, ht⟩ := wof_some _ (intP P) rfl hn (fun x hx => by
    obtain ⟨y, hy, rfl⟩ := List.mem_map.1 hx
    have := h.2.2 y hy
    omega)
  simp [permB, intP_len, h.1, ht]

def plTimes (xs ys : List Int) : List Int × Bool := if permB xs && permB ys then (intP (thenN (natP xs) (natP ys)), true) else ([], false)
def plTurned (xs : List Int) : List Int × Bool := if permB xs then (intP (turnN (natP xs)), true) else ([], false)
def wdB (w : Int) : Bool := decide (0 ≤ w ∧ w ≤ 16777215)
def plWord (xs : List Int) (w : Int) : Int × Bool := if permB xs && wdB w then (((movN (natP xs) w.toNat : Nat) : Int), true) else (0, false)
def cycI (xs : List Int) : List Int := (intP (rawC (natP xs))).mergeSort fun x y => decide (x ≤ y)
def plCycles (xs : List Int) : List Int × Bool := if permB xs then (cycI xs, true) else ([], false)
def lcmN (L : List Nat) : Nat := L.foldl Nat.lcm 1
def plOrder (xs : List Int) : Int × Bool := if permB xs then (((lcmN (rawC (natP xs)) : Nat) : Int), true) else (0, false)
def fixTo (P : List Nat) : Nat → Nat
  | 0 => 0
  | k + 1 => fixTo P k + if P.getD k 0 = k then 2 ^ k else 0
def plFixed (xs : List Int) : Int × Bool := if permB xs then (((fixTo (natP xs) 24 : Nat) : Int), true) else (0, false)
def keepsB (xs : List Int) : Bool := permB xs && (List.range 12).all fun k => syn (movN (natP xs) (cN (2 ^ k))) == 0

end Go.Proofs.YtcfhfllcdliaoaaGreatDoor
/- Permutations of the program: read from a list, listed, one after the other, turned. -/
namespace Go.Proofs.YtcfhfllcdliaoaaGreatDoor
open Go.RowKit
set_option linter.unusedVariables false
attribute [local irreducible] cN syn

theorem pFrom_yes (A : Option Addr) (c : Nat) (xs : List Int) (lo hi t : Int) (w : World) (ha : Rds w w.heap.size .i64 A xs) (hx : xs.length ≤ maxLen) (h1 : lo ≤ xs.length) (h2 : xs.length ≤ hi) (ht : wof xs = some t) :
    Calls Tryz.prog 177 #[.slice A xs.length c, .int .i64 lo, .int .i64 hi] w fun e w' => e = .returned (.tuple #[.int .u32 t, .bool true]) ∧ w = w' := by
  obtain ⟨⟨t0, t1⟩, _⟩ := wof_char _ xs t rfl ht
  have hx' := hx
  unfold maxLen at hx'
  have hc : IntKind.u32.wrap t = t := wrap_u32_in t t0 (by omega)
  have HS := Lib.hid (iWordOf_calls A c xs w ha hx)
  rw [ht] at HS
  clear ht ha
  go_enter Tryz.func177, Tryz.ntmps177
  go_wp2_with (go_at_call 210; refine HS.out.mono ?_; rintro e w' ⟨he, rfl⟩; simp only [resW] at he; subst he)
  go_ret2
  exact ⟨rfl, rfl⟩
theorem pFrom_no (A : Option Addr) (c : Nat) (xs : List Int) (lo hi : Int) (w : World) (ha : Rds w w.heap.size .i64 A xs) (hx : xs.length ≤ maxLen) (h : (xs.length : Int) < lo ∨ hi < xs.length ∨ wof xs = none) :
    Calls Tryz.prog 177 #[.slice A xs.length c, .int .i64 lo, .int .i64 hi] w fun e w' => e = .returned (.tuple #[.int .u32 0, .bool false]) ∧ w = w' := by
  have hx' := hx
  unfold maxLen at hx'
  by_cases h1 : (xs.length : Int) < lo
  · clear h
    go_enter Tryz.func177, Tryz.ntmps177
    go_wp2_with fail
    go_ret2
    exact ⟨rfl, rfl⟩
  by_cases h2 : hi < (xs.length : Int)
  · clear h
    go_enter Tryz.func177, Tryz.ntmps177
    go_wp2_with fail
    go_ret2
    exact ⟨rfl, rfl⟩
  have h3 : wof xs = none := by
    rcases h with h | h | h
    · exact absurd h h1
    · exact absurd h h2
    · exact h
  have HS := Lib.hid (iWordOf_calls A c xs w ha hx)
  rw [h3] at HS
  clear h h3 ha
  go_enter Tryz.func177, Tryz.ntmps177
  go_wp2_with (go_at_call 210; refine HS.out.mono ?_; rintro e w' ⟨he, rfl⟩; simp only [resW] at he; subst he)
  go_ret2
  exact ⟨rfl, rfl⟩
end Go.Proofs.YtcfhfllcdliaoaaGreatDoor
/- Permutations of the program: listed, one after the other, turned, what stays; the exported functions of these. -/
namespace Go.Proofs.YtcfhfllcdliaoaaGreatDoor
open Go.RowKit
set_option linter.unusedVariables false
attribute [local irreducible] cN syn

/-- Some elements more, out of a slice. -/
theorem wpList_more {ops : Array Oper} {rest : List Oper} {o : Oper} {a : Act} {Q : Exit → Act → World → Prop} (hgd : o.guard = none) (s y : Operand)
    (ho : o.op = .call { callee := .builtin .append, args := #[s, y], argTypes := #[61, 61] })
    (w : World) (B : Nat) (v : Value) (xs ys : List Int) (n b c : Nat) (hs : a.eval s = v) (hn : ys.length = n) (hy : a.eval y = .slice (some ⟨b, 0, none⟩) n c)
    (hcell : ∀ j, j < ys.length → w.cell? ⟨b, j, none⟩ = some (.int .i64 (ys.getD j 0))) (hown : Own w B v xs) (hlen : xs.length ≤ 1048576) (hyl : ys.length ≤ 1048576) (hy0 : 0 < ys.length) (hB : B ≤ w.heap.size)
    (h : ∀ v' w', Own w' B v' (xs ++ ys) → Below B w w' → w.grownBy w' v.ownBlock → wpList Tryz.prog ops Q rest (a.put o.dst v') w') :
    wpList Tryz.prog ops Q (o :: rest) a w := by
  subst hn
  obtain ⟨i0, hi, hz0, hz1, hz2⟩ := info_parts intRow
  refine wpList_append_own_at _ hgd s y 61 ho B 3 i0 (.int .i64 0) 1 8 Tryz.underlying61 hi hz0 hz1 hz2 rfl (by decide) v xs.length (vals .i64 xs) hs
    hown ⟨b, 0, none⟩ ys.length c (vals .i64 ys) hy (by rw [vals_len, Nat.mul_one]) ?_ ?_ ?_ ?_ ?_ ?_
  · intro j u hj
    have hjl : j < ys.length := by
      have := (List.getElem?_eq_some_iff.1 hj).1
      rwa [vals_len] at this
    have e := vals_get .i64 ys j hjl
    rw [e] at hj
    cases hj
    have := hcell j hjl
    have ea : (⟨b, 0, none⟩ : Addr).add j = ⟨b, j, none⟩ := by unfold Addr.add; split <;> simp_all
    rw [ea]
    exact this
  · intro u hu
    obtain ⟨x, _, rfl⟩ := List.mem_map.1 (show u ∈ ys.map (Value.int .i64) from hu)
    rfl
  · unfold maxLen; omega
  · omega
  · exact hB
  · intro v' w' h1 h2 _ _
    refine h v' w' ?_ ((Below.refl B w).grown h2 hB (own_row_ge hown)) h2
    unfold Own
    rw [vals_append]
    simpa using h1
end Go.Proofs.YtcfhfllcdliaoaaGreatDoor
/- Permutations of the program: one after the other, turned, what stays. -/
namespace Go.Proofs.YtcfhfllcdliaoaaGreatDoor
open Go.RowKit
set_option linter.unusedVariables false
attribute [local irreducible] cN syn

end Go.Proofs.YtcfhfllcdliaoaaGreatDoor