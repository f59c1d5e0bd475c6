import Derived.Test.YtmeejnkpaiinaacGreatDoorP0
import Derived.Test.YtmeejnkpaiinaacGreatDoorShelf
import Derived.Sort.OwnSortedInts
import Derived.Test.YtmeejnkpaiinaacGreatDoorC40
import Derived.OwnWalkIn
import Derived.Test.YtmeejnkpaiinaacGreatDoorC91
import Derived.Test.YtmeejnkpaiinaacGreatDoorR2
import Derived.Test.YtmeejnkpaiinaacGreatDoorR1
import Derived.Test.YtmeejnkpaiinaacGreatDoorQ7
import Derived.Deep.RegionHeld3
import Derived.Conc.Holds
import Derived.Leaving
import Derived.SevenTiedAt
import Derived.Test.YtmeejnkpaiinaacGreatDoorQ9
import Derived.Test.YtmeejnkpaiinaacGreatDoorC148
import Derived.Test.YtmeejnkpaiinaacGreatDoorQ1
/- Sorting a list that the call owns. -/
namespace Go.Proofs.YtmeejnkpaiinaacGreatDoor
open Go.RowKit Go.Sort
set_option linter.unusedVariables false

theorem sort_own2 (V : World) (B : Nat) (v : Value) (L : List Int) (h : Own V B v L) (h0 : 0 < L.length) (hl : L.length ≤ 4096) :
    Calls Tryz.prog 99 #[v] V fun e W => e = .returned (.tuple #[]) ∧ Own W B v (L.mergeSort fun x y => decide (x ≤ y)) ∧ V.grownBy W v.ownBlock := by
  rcases h.2 with ⟨_, hz⟩ | ⟨g, cap, cur, rfl, hbase, hb, h1, h2, h3, h4⟩
  · omega
  refine (Tryz.slices_Sort_int g 0 cap L V (holds_of_blockI hb (by simpa [vals] using h4)) (Array.getElem?_eq_some_iff.1 hb).1 (by omega)).mono ?_
  rintro e W ⟨rfl, n, os, rfl⟩
  refine ⟨rfl, ?_, grownBy_sortedI _⟩
  have := ownsRow_sortedI (os := os) (n := n) (ts := L.mergeSort fun x y => decide (x ≤ y)) (ss := L) (by simp) hbase hb h1 h2 h3
  unfold Own vals
  rw [List.length_mergeSort]
  exact this
end Go.Proofs.YtmeejnkpaiinaacGreatDoor
/- Octads through places, listed, of the program. -/
namespace Go.Proofs.YtmeejnkpaiinaacGreatDoor
open Go.RowKit Go.Shelf
attribute [local go_sem] Oper.semAt_some
set_option linter.unusedVariables false
attribute [local irreducible] octS cN octF

theorem octs_itL (a b : Int) (wa : IsW a) (wb : IsW b) (k n₀ : Nat) (hk : k = 4096) (w : World) (hn : n₀ ≤ w.heap.size) (hg : tab2G < n₀) (hT : Tab2 w) :
    SeqIt Tryz.prog 163 #[.pointer (some ⟨w.heap.size, 0, none⟩), .pointer (some ⟨w.heap.size + 1, 0, none⟩)] (encO (a := a) (b := b)) 10 (KpOf n₀ w.heap.size (w.heap.size + 2)) (fun ys => ys.map (fun x => x.val) = (octF k).filter (oC a b)) (fun _ => True) 4096 (owW a b w) := by
  have hs := owW_size a b w
  have hc := owW_cells a b w
  have hb := owW_below a b w
  have hT2 := hT.below hb hT.lt
  generalize owW a b w = W at *
  exact octads_it a b wa wb k n₀ w.heap.size (w.heap.size + 2) w.heap.size (w.heap.size + 1) hk W (by omega) (by omega) (Nat.le_refl _) (by omega) (by omega) (by omega) (by omega) (by omega) hg hc.1 hc.2 hT2
theorem own_turnL {A C : World} {B B' : Nat} {row : Option Nat} {v : Value} {xs : List Int} (h : Own A B v xs) (hg : A.grownBy C row) (hr : ∀ r, row = some r → B' ≤ r ∧ ∃ o : Obj, A.heap[r]? = some o ∧ o.isCells = false) : Own C B v xs := by
  refine ⟨h.1, ?_⟩
  rcases h.2 with h1 | ⟨b, cap, cur, h1, h2, h3, h4⟩
  · exact .inl h1
  · refine .inr ⟨b, cap, cur, h1, h2, (hg.block b (Array.getElem?_eq_some_iff.1 h3).1 fun e => ?_).trans h3, h4⟩
    obtain ⟨_, o, ho, hc⟩ := hr b e.symm
    rw [h3] at ho
    cases ho
    cases hc
theorem own_blkL {A : World} {B : Nat} {v : Value} {xs : List Int} (h : Own A B v xs) : ∀ g, v.ownBlock = some g → B ≤ g := by
  intro g hg
  rcases h.2 with ⟨h1, _⟩ | ⟨b, cap, cur, h1, h2, h3, h4⟩
  · rw [h1] at hg; cases hg
  · rw [h1] at hg; cases hg; exact h2
/-- A box that holds a list of the call's own. -/
def ListAt (G B : Nat) (xs : List Int) (V : World) : Prop := ∃ v, V.heap[G]? = some (.cells #[v] 23 (0, 0)) ∧ Own V B v xs
theorem ListAt.own {β : Type} {G B B0 : Nat} (f : β → List Int) (hG : G < B0) : OwnFrom B0 (fun (s : β) V => ListAt G B (f s) V) :=
  fun s A C row ⟨v, h1, h2⟩ hg hr => ⟨v, (hg.block G (Array.getElem?_eq_some_iff.1 h1).1 fun e => by have := (hr G e.symm).1; omega).trans h1, own_turnL h2 hg hr⟩
theorem wpListIn_push {F : Fence} {n : Nat} {ops : Array Oper} {rest : List Oper} {o : Oper} {a : Act} {Q : Exit → Act → World → Prop} (hgd : o.guard = none) (s y : Operand)
    (ho : o.op = .call { callee := .builtin .append, args := #[s, y], argTypes := #[23, 23] })
    (w : World) (B : Nat) (v : Value) (xs : List Int) (x : Int) (c : Nat) (hs : a.eval s = v) (hy : a.eval y = .slice (some ⟨w.heap.size, 0, none⟩) 1 c)
    (hown : Own w B v xs) (hlen : xs.length ≤ 1048576) (hB : B ≤ w.heap.size)
    (h : ∀ v' w', Own w' B v' (xs ++ [x]) → Below B w w' → w.grownBy w' v.ownBlock → wpListIn F n Tryz.prog ops Q rest (a.put o.dst v') w') :
    wpListIn F n Tryz.prog ops Q (o :: rest) a (w.alloc (.cells #[.int .i64 x] 3)) := by
  obtain ⟨i0, hi, hz0, hz1, hz2⟩ := info_parts intRow
  refine wpListIn_append_own _ hgd s y 23 ho B 3 i0 (.int .i64 0) 1 8 Tryz.underlying23 hi hz0 hz1 hz2 rfl (by decide) v xs.length (vals .i64 xs) hs
    (World.ownsRow.alloc hown _) ⟨w.heap.size, 0, none⟩ 1 c [.int .i64 x] hy rfl ?_ ?_ (by unfold maxLen; omega) (by omega) (by simp; omega) ?_
  · intro j u hj
    match j, hj with
    | 0, hj => simp at hj; subst hj; simp [Addr.add]
  · intro u hu; simp at hu; subst hu; rfl
  · intro v' w' h1 h2 _
    have hg : w.grownBy w' v.ownBlock := grown_trans (World.grownBy_alloc w _ _) h2
    refine h v' w' ?_ ((Below.refl B w).grown hg hB (own_row_ge hown)) hg
    unfold Own
    rw [vals_append, show vals .i64 [x] = [Value.int .i64 x] from rfl]
    simpa using h1
/-- The end of a round that has appended. -/
theorem list_fin {w V W2 : World} {B lw mid C : Nat} {v v' : Value} {xs ys : List Int} (h1 : V.heap[w.heap.size]? = some (.cells #[v] 23 (0, 0))) (ho : Own V B v xs) (hB : Below w.heap.size w V) (hg : V.grownBy W2 v.ownBlock) (o2 : Own W2 B v' ys)
    (hlw : w.heap.size < lw) (hm : mid ≤ C) (hGB : w.heap.size < B) (hCB : C ≤ B) (hBV : B ≤ V.heap.size) (D : Nat) (hD : w.heap.size < D) :
    KeepsIn D C V (W2.setCell ⟨w.heap.size, 0, none⟩ v') ∧ KpOf w.heap.size lw mid V (W2.setCell ⟨w.heap.size, 0, none⟩ v') ∧ ListAt w.heap.size B ys (W2.setCell ⟨w.heap.size, 0, none⟩ v') ∧ Below w.heap.size w (W2.setCell ⟨w.heap.size, 0, none⟩ v') := by
  have hv := own_blkL ho
  have hv' := own_blkL o2
  have b1 : Below w.heap.size V W2 := (Below.refl _ _).grown hg hB.size (fun k e => by have := hv k e; omega)
  have b2 : Below w.heap.size V (W2.setCell ⟨w.heap.size, 0, none⟩ v') := b1.setCell (Nat.le_refl _) _
  have hbx : W2.heap[w.heap.size]? = some (.cells #[v] 23 (0, 0)) := (hg.block w.heap.size (Array.getElem?_eq_some_iff.1 h1).1 fun e => by have := hv _ e.symm; omega).trans h1
  have hk : ∀ q, q ≠ w.heap.size → q < B → (W2.setCell ⟨w.heap.size, 0, none⟩ v').heap[q]? = V.heap[q]? := fun q h2 h3 =>
    (Below.heap_setCell W2 ⟨w.heap.size, 0, none⟩ v' q h2).trans (hg.block q (by omega) fun e => by have := hv _ e.symm; omega)
  refine ⟨⟨b2.size, fun q h2 h3 => hk q (by omega) (by omega)⟩, ⟨b2, ⟨b2.size, fun q h2 h3 => hk q (by omega) (by omega)⟩⟩, ⟨v', ?_, o2.set_far (fun e => by have := hv' _ e; simp at this; omega) _⟩, hB.trans b2⟩
  have := heap_setCell_same W2 w.heap.size 0 #[v] 23 v' hbx
  simpa using this
theorem oWith_sorted (t : Int) (k : Nat) (hk : k = 4096) : ((octF k).filter (oC t 0)).mergeSort (fun x y => decide (x ≤ y)) = oWith t := by
  have hp : ((octF k).filter (oC t 0)).Perm (oWith t) := by
    have e : oWith t = octS.filter (oC t 0) := by
      unfold oWith
      refine List.filter_congr fun x _ => ?_
      simp [oC, andI]
    rw [e]
    exact (octF_perm k hk).filter _
  have hq := (List.mergeSort_perm ((octF k).filter (oC t 0)) (fun x y => decide (x ≤ y))).trans hp
  have hn := hq.nodup_iff.2 (oWith_asc t).nodup
  refine asc_ext _ _ ?_ (oWith_asc t) fun x => hq.mem_iff
  unfold Asc
  exact ((ms_pair ((octF k).filter (oC t 0))).and hn).imp fun {a b} h => by omega
theorem placesFrom_yes (A : Option Addr) (c : Nat) (xs : List Int) (lo hi t : Int) (w : World) (ha : Rds w w.heap.size .i64 A xs) (hx : xs.length ≤ maxLen) (h1 : lo ≤ xs.length) (h2 : xs.length ≤ hi) (ht : wof xs = some t) :
    Calls Tryz.prog 71 #[.slice A xs.length c, .int .i64 lo, .int .i64 hi] w fun e w' => e = .returned (.tuple #[.int .u32 t, .bool true]) ∧ w = w' := by
  obtain ⟨⟨t0, t1⟩, _⟩ := wof_is ht
  have hx' := hx
  unfold maxLen at hx'
  have hc : IntKind.u32.wrap t = t := wrap_u32_in t t0 (by omega)
  have HS := Lib.hid (iWordOf_calls A c xs w ha hx)
  rw [ht] at HS
  clear ht ha
  go_enter Tryz.func71, Tryz.ntmps71
  go_wp2_with (go_at_call 113; refine HS.out.mono ?_; rintro e w' ⟨he, rfl⟩; simp only [resW] at he; subst he)
  go_ret2
  exact ⟨rfl, rfl⟩
theorem placesFrom_no (A : Option Addr) (c : Nat) (xs : List Int) (lo hi : Int) (w : World) (ha : Rds w w.heap.size .i64 A xs) (hx : xs.length ≤ maxLen) (h : (xs.length : Int) < lo ∨ hi < xs.length ∨ wof xs = none) :
    Calls Tryz.prog 71 #[.slice A xs.length c, .int .i64 lo, .int .i64 hi] w fun e w' => e = .returned (.tuple #[.int .u32 0, .bool false]) ∧ w = w' := by
  have hx' := hx
  unfold maxLen at hx'
  by_cases h1 : (xs.length : Int) < lo
  · clear h
    go_enter Tryz.func71, Tryz.ntmps71
    go_wp2_with fail
    go_ret2
    exact ⟨rfl, rfl⟩
  by_cases h2 : hi < (xs.length : Int)
  · clear h
    go_enter Tryz.func71, Tryz.ntmps71
    go_wp2_with fail
    go_ret2
    exact ⟨rfl, rfl⟩
  have h3 : wof xs = none := by
    rcases h with h | h | h
    · exact absurd h h1
    · exact absurd h h2
    · exact h
  have HS := Lib.hid (iWordOf_calls A c xs w ha hx)
  rw [h3] at HS
  clear h h3 ha
  go_enter Tryz.func71, Tryz.ntmps71
  go_wp2_with (go_at_call 113; refine HS.out.mono ?_; rintro e w' ⟨he, rfl⟩; simp only [resW] at he; subst he)
  go_ret2
  exact ⟨rfl, rfl⟩
end Go.Proofs.YtmeejnkpaiinaacGreatDoor
/- Ovals: the program's list, sorted. -/
namespace Go.Proofs.YtmeejnkpaiinaacGreatDoor
open Go.RowKit Go.Shelf
attribute [local go_sem] Oper.semAt_some
set_option linter.unusedVariables false
attribute [local irreducible] octS cN octF syn

theorem oC_split (B T : Nat) (h : T &&& B = T) (x : Nat) : oC (T : Int) (lessI (B : Int) (T : Int)) (x : Int) = (andI (x : Int) (B : Int) == (T : Int)) := by
  unfold oC lessI
  simp only [Int.toNat_natCast]
  rw [andI_nat, andI_nat, andI_nat, Bool.eq_iff_iff]
  simp only [Bool.and_eq_true, beq_iff_eq]
  constructor
  · rintro ⟨h1, h2⟩
    have h1' : x &&& T = T := by omega
    have h2' : x &&& (B ^^^ (B &&& T)) = 0 := by omega
    have : x &&& B = T := Nat.eq_of_testBit_eq fun q => by
      have a := congrArg (fun n => n.testBit q) h1'
      have b := congrArg (fun n => n.testBit q) h2'
      have c := congrArg (fun n => n.testBit q) h
      simp only [Nat.testBit_and, Nat.testBit_xor, Nat.zero_testBit] at a b c ⊢
      revert a b c
      cases x.testBit q <;> cases T.testBit q <;> cases B.testBit q <;> simp
    omega
  · intro h0
    have h0' : x &&& B = T := by omega
    constructor
    · have : x &&& T = T := Nat.eq_of_testBit_eq fun q => by
        have a := congrArg (fun n => n.testBit q) h0'
        simp only [Nat.testBit_and] at a ⊢
        revert a
        cases x.testBit q <;> cases T.testBit q <;> cases B.testBit q <;> simp
      omega
    · have : x &&& (B ^^^ (B &&& T)) = 0 := Nat.eq_of_testBit_eq fun q => by
        have a := congrArg (fun n => n.testBit q) h0'
        simp only [Nat.testBit_and, Nat.testBit_xor, Nat.zero_testBit] at a ⊢
        revert a
        cases x.testBit q <;> cases T.testBit q <;> cases B.testBit q <;> simp
      omega
theorem ovl_perm (B T : Nat) (h : T &&& B = T) (k : Nat) (hk : k = 4096) : ((octF k).filter (oC (T : Int) (lessI (B : Int) (T : Int)))).Perm (octS.filter fun x => andI x (B : Int) == (T : Int)) := by
  have e : octS.filter (fun x => andI x (B : Int) == (T : Int)) = octS.filter (oC (T : Int) (lessI (B : Int) (T : Int))) := by
    refine List.filter_congr fun x hx => ?_
    have hr := (oct_iff.1 hx).rng
    obtain ⟨X, rfl⟩ := Int.eq_ofNat_of_zero_le hr.1
    rw [oC_split B T h X]
  rw [e]
  exact (octF_perm k hk).filter _
theorem less_W {B T : Int} (hB : IsW B) : IsW (lessI B T) := by
  obtain ⟨X, rfl⟩ := Int.eq_ofNat_of_zero_le hB.1
  unfold lessI
  simp only [Int.toNat_natCast]
  have h2 := hB.2
  have h3 : X < 2 ^ 24 := by omega
  have : X ^^^ (X &&& T.toNat) < 2 ^ 24 := Nat.xor_lt_two_pow h3 (Nat.lt_of_le_of_lt Nat.and_le_left h3)
  exact ⟨by omega, by omega⟩
theorem xor_le24 {a b : Int} (ha : 0 ≤ a ∧ a ≤ 16777215) (hb : IsW b) : xorI a b ≤ 16777215 := by
  obtain ⟨A, rfl⟩ := Int.eq_ofNat_of_zero_le ha.1
  obtain ⟨B, rfl⟩ := Int.eq_ofNat_of_zero_le hb.1
  rw [xorI_nat]
  have h1 := ha.2
  have h2 := hb.2
  have : A ^^^ B < 2 ^ 24 := Nat.xor_lt_two_pow (by omega) (by omega)
  omega
theorem less_sub {x n : Int} (hx : 0 ≤ x) (hn : 0 ≤ n) (h : andI x n = n) : lessI x n = xorI x n := by
  obtain ⟨X, rfl⟩ := Int.eq_ofNat_of_zero_le hx
  obtain ⟨N, rfl⟩ := Int.eq_ofNat_of_zero_le hn
  rw [andI_nat] at h
  have h' : X &&& N = N := by omega
  unfold lessI xorI
  simp only [Int.toNat_natCast]
  rw [h']
/-- An append of one number, as the region meets it. -/
theorem push_runO (V : World) (B : Nat) (v : Value) (xs : List Int) (x : Int) (c : Nat) (ty : TypeId) (hown : Own V B v xs) (hlen : xs.length ≤ 1048576) (hB : B ≤ V.heap.size) :
    ∃ v' V', (Builtin.append_ #[23, 23] ty #[v, .slice (some ⟨V.heap.size, 0, none⟩) 1 c]).run Tryz.prog (World.drew (V.alloc (.cells #[.int .i64 x] 3))) = .ok v' V' ∧ Own V' B v' (xs ++ [x]) ∧ V.grownBy V' v.ownBlock := by
  obtain ⟨i0, hi, hz0, hz1, hz2⟩ := info_parts intRow
  obtain ⟨v', V', h1, h2, h3, _⟩ := run_append_own (P := Tryz.prog) (World.drew (V.alloc (.cells #[.int .i64 x] 3))) B 23 ty 3 i0 (.int .i64 0) 1 8 Tryz.underlying23 hi hz0 hz1 hz2 rfl (by decide) v xs.length (vals .i64 xs) (World.ownsRow.alloc hown _) ⟨V.heap.size, 0, none⟩ 1 c [.int .i64 x] rfl
    (by
      intro j u hj
      match j, hj with
      | 0, hj => simp at hj; subst hj; exact cell_new V #[.int .i64 x] _ 0 _ rfl)
    (by intro u hu; simp at hu; subst hu; rfl) (by unfold maxLen; omega) (by omega) (by show B ≤ (V.alloc _).heap.size; simp; omega)
  have h3' : (V.alloc (.cells #[.int .i64 x] 3)).grownBy V' v.ownBlock := ⟨h3.os, h3.tape, h3.output, h3.size, h3.block⟩
  refine ⟨v', V', h1, ?_, grown_trans (World.grownBy_alloc V _ _) h3'⟩
  unfold Own
  rw [vals_append, show vals .i64 [x] = [Value.int .i64 x] from rfl, List.length_append]
  simpa using h2
theorem own_formO {A : World} {B : Nat} {v : Value} {xs : List Int} {x : Int} (h : Own A B v (xs ++ [x])) : ∃ g cap, v = .slice (some ⟨g, 0, none⟩) (xs.length + 1) cap := by
  have e : (xs ++ [x]).length = xs.length + 1 := by simp
  unfold Own at h
  rw [e] at h
  exact ownsRow_succ h
def myAppO (ats : Array TypeId) (ty : TypeId) (args : Array Value) : Sem Value := Builtin.append_ ats ty args
theorem myAppO_is (ats : Array TypeId) (ty : TypeId) (args : Array Value) : Builtin.append_ ats ty args = myAppO ats ty args := rfl
attribute [local go_sem ↓] myAppO_is
/-- The end of a round that has appended: the list's box at G. -/
theorem list_finG {w V W2 : World} {G B lw mid C : Nat} {v v' : Value} {xs ys : List Int} (h1 : V.heap[G]? = some (.cells #[v] 23 (0, 0))) (hwG : w.heap.size ≤ G) (ho : Own V B v xs) (hB : Below w.heap.size w V) (hg : V.grownBy W2 v.ownBlock) (o2 : Own W2 B v' ys)
    (hlw : G < lw) (hm : mid ≤ C) (hGB : G < B) (hCB : C ≤ B) (hBV : B ≤ V.heap.size) (D : Nat) (hD : G < D) :
    KeepsIn D C V (W2.setCell ⟨G, 0, none⟩ v') ∧ KpOf w.heap.size lw mid V (W2.setCell ⟨G, 0, none⟩ v') ∧ ListAt G B ys (W2.setCell ⟨G, 0, none⟩ v') ∧ Below w.heap.size w (W2.setCell ⟨G, 0, none⟩ v') ∧ (∀ q, q < B → q ≠ G → (W2.setCell ⟨G, 0, none⟩ v').heap[q]? = V.heap[q]?) := by
  have hv := own_blkL ho
  have hv' := own_blkL o2
  have b1 : Below w.heap.size V W2 := (Below.refl _ _).grown hg hB.size (fun k e => by have := hv k e; omega)
  have b2 : Below w.heap.size V (W2.setCell ⟨G, 0, none⟩ v') := b1.setCell hwG _
  have hbx : W2.heap[G]? = some (.cells #[v] 23 (0, 0)) := (hg.block G (Array.getElem?_eq_some_iff.1 h1).1 fun e => by have := hv _ e.symm; omega).trans h1
  have hk : ∀ q, q ≠ G → q < B → (W2.setCell ⟨G, 0, none⟩ v').heap[q]? = V.heap[q]? := fun q h2 h3 =>
    (Below.heap_setCell W2 ⟨G, 0, none⟩ v' q h2).trans (hg.block q (by omega) fun e => by have := hv _ e.symm; omega)
  refine ⟨⟨b2.size, fun q h2 h3 => hk q (by omega) (by omega)⟩, ⟨b2, ⟨b2.size, fun q h2 h3 => hk q (by omega) (by omega)⟩⟩, ⟨v', ?_, o2.set_far (fun e => by have := hv' _ e; simp at this; omega) _⟩, hB.trans b2, fun q h2 h3 => hk q h3 h2⟩
  have := heap_setCell_same W2 G 0 #[v] 23 v' hbx
  simpa using this
set_option maxRecDepth 100000 in
set_option maxHeartbeats 4000000 in
theorem ovals_in (B T : Nat) (hB : IsBase B) (hT0 : T &&& B = T) (hT2 : pop T = 2) (k : Nat) (hk : k = 4096) (w : World) (hT : Tab2 w) :
    CallsIn Fence.wide 6 Tryz.prog 73 #[.int .u32 (B : Int), .int .u32 (T : Int)] w fun e w' => ∃ v, e = .returned v ∧ Own w' w.heap.size v (ovl (B : Int) (T : Int)) ∧ Below w.heap.size w w' := by
  have wB : IsW (B : Int) := ⟨by omega, by have := hB.1; omega⟩
  have wT : IsW (T : Int) := by
    have h1 : T ≤ B := by rw [← hT0]; exact Nat.and_le_right
    have := hB.1
    exact ⟨by omega, by omega⟩
  have wR := less_W (T := (T : Int)) wB
  have HP := Lib.hid (ovl_perm B T hT0 k hk)
  refine callsIn_of_wp_marks Tryz.func73 rfl trivial ?_ rfl
  simp only [Tryz.ntmps73, List.size_toArray, List.length_cons, List.length_nil, Nat.reduceAdd, Nat.reduceSub, Array.replicate_succ, Array.replicate_zero, List.push_toArray, List.append_toArray, List.nil_append, List.cons_append]
  have HL := Lib.hid (fun W => word_less (B : Int) (T : Int) W wB.1 wB.2 wT.1 wT.2)
  have HOV := Lib.hid (show ∀ M : List Int, M.Perm ((octS.filter fun x => andI x (B : Int) == (T : Int)).map fun x => xorI x (T : Int)) → sortI M = ovl (B : Int) (T : Int) from fun M h => sortI_congr h)
  have HOVL := Lib.hid (show (ovl (B : Int) (T : Int)).length = 56 from ovl_len hB (show B &&& T = T by rw [Nat.and_comm]; exact hT0) hT2)
  generalize lessI (B : Int) (T : Int) = R at *
  generalize hov : ovl (B : Int) (T : Int) = OV at *
  clear hov
  generalize (B : Int) = b at *
  generalize (T : Int) = t at *
  have hmx : Tryz.prog.follows .mixedOrders = true := by kernel_rfl
  gi_wp2_with fail
  refine wpIn_mono (Q := fun e a W => match e with
    | .normal => a = { tmps := #[.int .u32 b, .int .u32 t, undef, .pointer (some ⟨w.heap.size, 0, none⟩), .slice none 0 0, .pointer (some ⟨w.heap.size + 1, 0, none⟩), undef, .int .u32 t, .int .u32 b, .int .u32 t, .int .u32 R, .func (.func 163) #[] #[.pointer (some ⟨w.heap.size + 1 + 1, 0, none⟩), .pointer (some ⟨w.heap.size + 1 + 1 + 1, 0, none⟩)], undef, undef, undef, undef, undef, undef, undef, undef, undef, undef, undef], defers := [] } ∧ W = owW t R (((w.alloc (.cells #[.int .u32 t] 63)).alloc (.cells #[.slice none 0 0] 23)).drew)
    | _ => False) ?_ ?_
  · gi_region_with_o (first
      | (refine ⟨trivial, ?_⟩; refine (callsIn_wide.2 (HL.out _)).mono ?_; rintro e w' ⟨rfl, rfl⟩)
      | (refine ⟨trivial, ?_⟩; refine (callsIn_wide.2 (octadsWith_calls _ _ _)).mono ?_; rintro e w' ⟨rfl, rfl⟩))
    all_goals exact ⟨rfl, rfl⟩
  intro e a W h
  cases e <;> (try exact h.elim)
  obtain ⟨ha, hW⟩ := h
  subst ha
  have hsz : (((w.alloc (.cells #[.int .u32 t] 63)).alloc (.cells #[.slice none 0 0] 23)).drew).heap.size = w.heap.size + 1 + 1 := by show ((w.alloc _).alloc _).heap.size = _; simp
  have hb2 : Below w.heap.size w (((w.alloc (.cells #[.int .u32 t] 63)).alloc (.cells #[.slice none 0 0] 23)).drew) := (((Below.refl _ w).alloc (Nat.le_refl _) _).alloc (by simp) _).drew
  have hX0 : (((w.alloc (.cells #[.int .u32 t] 63)).alloc (.cells #[.slice none 0 0] 23)).drew).heap[w.heap.size]? = some (.cells #[.int .u32 t] 63 (0, 0)) := (Blk.new w _ _).alloc _
  have hX1 : (((w.alloc (.cells #[.int .u32 t] 63)).alloc (.cells #[.slice none 0 0] 23)).drew).heap[w.heap.size + 1]? = some (.cells #[.slice none 0 0] 23 (0, 0)) := Blk.new1 w _ _ _
  generalize ((w.alloc (.cells #[.int .u32 t] 63)).alloc (.cells #[.slice none 0 0] 23)).drew = w2 at *
  have hT2 : Tab2 w2 := hT.below hb2 hT.lt
  have hs4 := owW_size t R w2
  have hcb := owW_below t R w2
  have hit := octs_itL t R wT wR k w.heap.size hk w2 (by omega) hT.lt hT2
  rw [hsz] at hit hs4
  have hX04 := (hcb.block w.heap.size (by omega)).trans hX0
  have hX14 := (hcb.block (w.heap.size + 1) (by omega)).trans hX1
  have hB4 : Below w.heap.size w (owW t R w2) := hb2.trans (hcb.mono hb2.size)
  subst hW
  clear hX0 hX1 hb2 hcb
  generalize owW t R w2 = w4 at *
  gi_wp2_with fail
  refine wp_range_it (gf := 163) (lb := #[.pointer (some ⟨w.heap.size + 1 + 1, 0, none⟩), .pointer (some ⟨w.heap.size + 1 + 1 + 1, 0, none⟩)]) rfl (enters_of Tryz.func163 (by kernel_rfl) rfl) hit (fun h k => KpOf.trans h k) (fun V j o hj hjl => KpOf.put V j o (by omega) (by omega) hjl) (Below.refl _ _) (fun _ => rfl)
    (fun (pre : List (Oc t R)) V => (ListAt (w.heap.size + 1) (w4.heap.size + 12) (pre.map fun x => xorI x.val t) V ∧ V.heap[w.heap.size]? = some (.cells #[.int .u32 t] 63 (0, 0))) ∧ Below w.heap.size w V)
    (fun _ _ _ => False)
    (((ListAt.own (fun (pre : List (Oc t R)) => pre.map fun x => xorI x.val t) (by omega)).and (ownFrom_at _ (by omega))).and (ownFrom_below (Nat.le_refl _) (by omega)))
    (fun _ _ _ _ _ hs _ _ => hs)
    ⟨⟨⟨_, hX14, Own.nil_ _ _⟩, hX04⟩, hB4⟩
    (fun x => { tmps := #[.int .u32 b, .int .u32 t, undef, .pointer (some ⟨w.heap.size, 0, none⟩), .slice none 0 0, .pointer (some ⟨w.heap.size + 1, 0, none⟩), .int .u32 x.val, .int .u32 t, .int .u32 b, .int .u32 t, .int .u32 R, .func (.func 163) #[] #[.pointer (some ⟨w.heap.size + 1 + 1, 0, none⟩), .pointer (some ⟨w.heap.size + 1 + 1 + 1, 0, none⟩)], .int .u32 x.val, undef, undef, undef, undef, undef, undef, undef, undef, undef, undef], defers := [] }) ?assign ?body ?done ?stop
  case assign =>
    intro l x V K hK
    unfold encO
    gi_wp2
    exact hK
  case body =>
    rintro l pre x V ⟨⟨⟨v, h1, ho⟩, h0⟩, hB⟩ hlen hsK
    have wx := x.property.1.rng
    have hsub : andI x.val t = t := by have := x.property.2; simp [oC] at this; exact this.1
    have hmp : ((pre ++ [x]).map fun x => xorI x.val t) = (pre.map fun x => xorI x.val t) ++ [xorI x.val t] := by simp
    have hln : (pre.map fun x => xorI x.val t).length ≤ 4096 := by rw [List.length_map]; omega
    have HLX := Lib.hid (fun W => word_less x.val t W wx.1 wx.2 wT.1 wT.2)
    rw [less_sub wx.1 wT.1 hsub] at HLX
    have hy := xorI_nonneg x.val t
    have hy2 := xor_le24 wx wT
    have hwx : IntKind.i64.wrap (xorI x.val t) = xorI x.val t := by rw [IntKind.wrap_i64]; omega
    have hc0 : V.cell? ⟨w.heap.size, 0, none⟩ = some (.int .u32 t) := Boxed.cell (t := 63) h0
    have hc1 : V.cell? ⟨w.heap.size + 1, 0, none⟩ = some v := Boxed.cell (t := 23) h1
    have hvs : w.heap.size + 1 < V.heap.size := Boxed.lt (t := 23) h1
    have hv := own_blkL ho
    have H1 := Lib.hid h1
    have H0 := Lib.hid h0
    have HO := Lib.hid ho
    have HB := Lib.hid hB
    have HMP := Lib.hid hmp
    have HV := Lib.hid hv
    clear h1 h0 ho hB hmp hit hB4 hX04 hX14 hv hsub
    generalize (pre.map fun x => xorI x.val t) = L at *
    generalize xorI x.val t = y at *
    generalize x.val = xv at *
    obtain ⟨A', c', rfl⟩ := HO.out.slice
    have hc4 : (V.alloc (.cells #[.int .i64 y] 3)).cell? ⟨w.heap.size + 1, 0, none⟩ = some (.slice A' L.length c') := (World.cell?_alloc_lt V _ ⟨w.heap.size + 1, 0, none⟩ hvs).trans hc1
    have hc5 : (World.drew (V.alloc (.cells #[.int .i64 y] 3))).cell? ⟨w.heap.size + 1, 0, none⟩ = _ := hc4
    obtain ⟨v', V', hp1, hp2, hp3⟩ := push_runO V (w4.heap.size + 12) (.slice A' L.length c') L y 1 23 HO.out (by omega) (by omega)
    obtain ⟨g', cap', rfl⟩ := own_formO hp2
    have hbx2 : V'.heap[w.heap.size + 1]? = some (.cells #[.slice A' L.length c'] 23 (0, 0)) := (hp3.block (w.heap.size + 1) hvs (fun e => by have := HV.out _ e.symm; omega)).trans H1.out
    have hf3 : V'.frozen? ⟨w.heap.size + 1, 0, none⟩ = false := Lib.frozen_of_heap hbx2 0
    have hc3 : V'.cell? ⟨w.heap.size + 1, 0, none⟩ = some (.slice A' L.length c') := Boxed.cell (t := 23) hbx2
    have HFIN := Lib.hid (list_finG (lw := w.heap.size + 1 + 1) (mid := w.heap.size + 1 + 1 + 2) (C := w4.heap.size + 2 + 10) (D := w4.heap.size) H1.out (by omega) HO.out HB.out hp3 hp2 (by omega) (by omega) (by omega) (by omega) (by omega) (by omega))
    change (myAppO #[23, 23] 23 #[.slice A' L.length c', .slice (some ⟨V.heap.size, 0, none⟩) 1 1]).run Tryz.prog _ = _ at hp1
    have HP1 := Lib.hid hp1
    clear hp1 hp2 hp3 hbx2
    have hd : 1 ≤ 6 - 1 - 1 := by omega
    gi_wp2_with fail
    gi_region_with_o (refine ⟨trivial, ?_⟩; refine (CallsIn.inRound l (callsIn_wide.2 (HLX.out _))).mono ?_; rintro e w' ⟨rfl, rfl⟩; have hp1 := HP1.out)
    all_goals gi_wp2
    all_goals
      have hfin := HFIN.out
      refine ⟨hfin.1, hfin.2.1, ⟨?_, (hfin.2.2.2.2 w.heap.size (by omega) (by omega)).trans H0.out⟩, hfin.2.2.2.1⟩
      rw [HMP.out]
      exact hfin.2.2.1
  case done =>
    rintro D ys V hD hS ⟨⟨⟨v, h1, ho⟩, h0⟩, hB⟩ hK
    have e1 : (ys.map fun x => xorI x.val t) = (ys.map fun x => x.val).map fun x => xorI x t := by rw [List.map_map]; rfl
    have hln : (ys.map fun x => xorI x.val t).length ≤ 4096 := by
      rw [e1, List.length_map, hS]
      have a1 := List.length_filter_le (oC t R) (octF k)
      have a2 := octF_len k
      omega
    have hms : (ys.map fun x => xorI x.val t).mergeSort (fun x y => decide (x ≤ y)) = OV := by
      have := HOV.out ((ys.map fun x => x.val).map fun x => xorI x t) (by rw [hS]; exact HP.out.map _)
      rw [← e1] at this
      exact this
    have hc1 : V.cell? ⟨w.heap.size + 1, 0, none⟩ = some v := Boxed.cell (t := 23) h1
    have hvs : w.heap.size + 1 < V.heap.size := Boxed.lt (t := 23) h1
    have hpos : 0 < (ys.map fun x => xorI x.val t).length := by
      have := congrArg List.length hms
      rw [List.length_mergeSort, HOVL.out] at this
      omega
    have HSORT := Lib.hid (sort_own2 V _ v _ ho hpos hln)
    rw [hms] at HSORT
    have hv := own_blkL ho
    have H1 := Lib.hid h1
    have HO := Lib.hid ho
    have HB := Lib.hid hB
    have HV := Lib.hid hv
    clear h1 ho hB hit hB4 hX04 hX14 hS hms hln hv e1 h0 hpos
    gi_wp2_with fail
    refine ⟨trivial, ?_⟩
    refine (callsIn_wide.2 HSORT.out).mono ?_
    rintro e W2 ⟨rfl, hown, hg⟩
    have hne : some D ≠ v.ownBlock := by
      intro e
      rcases HO.out.2 with ⟨h1, _⟩ | ⟨b, cap, cur, h1, h2, h3, _⟩
      · rw [h1] at e; cases e
      · rw [h1] at e; cases e; rw [h3] at hK; cases hK
    have hKW : W2.heap[D]? = some (.deferred (some [])) := (hg.block D (Array.getElem?_eq_some_iff.1 hK).1 hne).trans hK
    have hbx2 : W2.heap[w.heap.size + 1]? = some (.cells #[v] 23 (0, 0)) := (hg.block (w.heap.size + 1) hvs (fun e => by have := HV.out _ e.symm; omega)).trans H1.out
    have hc2 : W2.cell? ⟨w.heap.size + 1, 0, none⟩ = some v := Boxed.cell (t := 23) hbx2
    have hBW : Below w.heap.size w W2 := HB.out.trans ((Below.refl _ _).grown hg HB.out.size (fun k hk => by have := HV.out k hk; omega))
    have HOW := Lib.hid hown
    have HBW := Lib.hid hBW
    have HKW := Lib.hid hKW
    clear hown hg hne hKW hbx2 hBW
    gi_wp2_with fail
    refine ⟨by simp, .inl ⟨_, _, rfl, run_takeDeferred HKW.out, ?_⟩⟩
    refine ⟨_, results_tmp rfl _ _ _, _, rfl, ?_, HBW.out.trans (belowK_b (w := w) (Nat.le_refl _) W2 D _ _ (by omega) HKW.out rfl rfl)⟩
    exact (own_turnL (B' := 0) HOW.out (grownBy_putObj' W2 D _) (fun r e => by cases e; exact ⟨Nat.zero_le _, _, HKW.out, rfl⟩)).weak (by omega)
  case stop =>
    rintro D c pre V _ _ h _
    exact h.elim
end Go.Proofs.YtmeejnkpaiinaacGreatDoor
/- Ovals through two places of a base: the program's list. -/
namespace Go.Proofs.YtmeejnkpaiinaacGreatDoor
open Go.RowKit Go.Shelf
set_option linter.unusedVariables false
attribute [local irreducible] octS cN octF syn

theorem ovals_calls (B T : Nat) (hB : IsBase B) (hT0 : T &&& B = T) (hT2 : pop T = 2) (w : World) (hT : Tab2 w) :
    Calls Tryz.prog 73 #[.int .u32 (B : Int), .int .u32 (T : Int)] w fun e w' => ∃ v, e = .returned v ∧ Own w' w.heap.size v (ovl (B : Int) (T : Int)) ∧ Below w.heap.size w w' := by
  obtain ⟨k, hk⟩ : ∃ k, k = 4096 := ⟨_, rfl⟩
  exact callsIn_wide.1 (ovals_in B T hB hT0 hT2 k hk w hT)
theorem placesFrom_two_yes (P Q : Nat) (hP : P < 24) (hQ : Q < 24) (h : P ≠ Q) (W : World) :
    Calls Tryz.prog 71 #[.slice (some ⟨W.heap.size, 0, none⟩) 2 2, .int .i64 2, .int .i64 2] (W.alloc (.cells #[.int .i64 (P : Int), .int .i64 (Q : Int)] 3)) fun e w' => e = .returned (.tuple #[.int .u32 ((2 ^ P ||| 2 ^ Q : Nat) : Int), .bool true]) ∧ W.alloc (.cells #[.int .i64 (P : Int), .int .i64 (Q : Int)] 3) = w' := by
  have := placesFrom_yes (some ⟨W.heap.size, 0, none⟩) 2 [(P : Int), (Q : Int)] 2 2 ((2 ^ P ||| 2 ^ Q : Nat) : Int) (W.alloc (.cells #[.int .i64 (P : Int), .int .i64 (Q : Int)] 3)) (own_two W P Q).rds (by unfold maxLen; simp) (by simp) (by simp) (wof_two P Q hP hQ h)
  rw [show [(P : Int), (Q : Int)].length = 2 from rfl] at this
  exact this
theorem placesFrom_two_no (p q : Int) (h : ¬ ((0 ≤ p ∧ p ≤ 23) ∧ (0 ≤ q ∧ q ≤ 23) ∧ p ≠ q)) (W : World) :
    Calls Tryz.prog 71 #[.slice (some ⟨W.heap.size, 0, none⟩) 2 2, .int .i64 2, .int .i64 2] (W.alloc (.cells #[.int .i64 p, .int .i64 q] 3)) fun e w' => e = .returned (.tuple #[.int .u32 0, .bool false]) ∧ W.alloc (.cells #[.int .i64 p, .int .i64 q] 3) = w' := by
  have := placesFrom_no (some ⟨W.heap.size, 0, none⟩) 2 [p, q] 2 2 (W.alloc (.cells #[.int .i64 p, .int .i64 q] 3)) (own_two W p q).rds (by unfold maxLen; simp) (.inr (.inr (wof_two_no p q h)))
  rw [show [p, q].length = 2 from rfl] at this
  exact this
set_option maxRecDepth 100000 in
set_option maxHeartbeats 2000000 in
theorem iPlaneOvals_calls (b p q : Int) (w : World) (hT : Tab2 w) :
    Calls Tryz.prog 26 #[.int .i64 b, .int .i64 p, .int .i64 q] w (GotL w (plOvals b p q).1 (plOvals b p q).2) := by
  rcases hb : baseB b with _ | _
  · rw [plOvals_base hb]
    have HBF := Lib.hid (baseFrom_no b hb)
    clear hb
    go_enter Tryz.func26, Tryz.ntmps26
    go_wp2_with (go_at_call 70; refine (HBF.out _).mono ?_; rintro e w' ⟨rfl, kk, rfl⟩)
    go_ret2
    exact ⟨_, rfl, Own.nil_ _ _, below_drewN (Below.refl _ _) kk⟩
  obtain ⟨B, rfl, hB⟩ := baseB_nat hb
  have HBF := Lib.hid (baseFrom_yes B hB)
  by_cases h2 : (0 ≤ p ∧ p ≤ 23) ∧ (0 ≤ q ∧ q ≤ 23) ∧ p ≠ q
  · obtain ⟨hp, hq, hpq⟩ := h2
    obtain ⟨P, rfl⟩ := Int.eq_ofNat_of_zero_le hp.1
    obtain ⟨Q, rfl⟩ := Int.eq_ofNat_of_zero_le hq.1
    have hP : P < 24 := by omega
    have hQ : Q < 24 := by omega
    have hne : P ≠ Q := by omega
    have HPY := Lib.hid (fun W => placesFrom_two_yes P Q hP hQ hne W)
    have hab := all_bits (B := B) (P := P) (Q := Q)
    have hpb := plOvals_bits hB hP hQ hne
    have hT0 : (2 ^ P ||| 2 ^ Q) < 16777216 := or_lt24 P Q hP hQ
    have hOV := ovals_calls B (2 ^ P ||| 2 ^ Q) hB
    have hp2 := pair_pop P Q hP hQ hne
    have hbits := has_bits (l := B) (p := P) (q := Q)
    rw [hpb]
    clear hpb hb hp hq hpq
    generalize 2 ^ P ||| 2 ^ Q = T at *
    have wB : IsW (B : Int) := ⟨by omega, by have := hB.1; omega⟩
    have wT : IsW (T : Int) := ⟨by omega, by omega⟩
    have HHA := Lib.hid (fun W => word_hasAll (B : Int) (T : Int) W wB wT)
    rw [hab] at HHA
    rcases hbb : (B.testBit P && B.testBit Q) with _ | _
    · rw [hbb] at HHA
      clear hOV hbits hab
      simp only [Bool.false_eq_true, if_false]
      go_enter Tryz.func26, Tryz.ntmps26
      go_wp2_with (go_at_call 70; refine (HBF.out _).mono ?_; rintro e w' ⟨rfl, kk, rfl⟩)
      have HB1 := Lib.hid (below_drewN (Below.refl w.heap.size w) kk)
      refine (HPY.out (w.drewN kk)).mono ?_
      rintro e w' ⟨rfl, rfl⟩
      go_wp2_with (go_at_call 72; refine (HHA.out _).mono ?_; rintro e w' ⟨rfl, rfl⟩)
      go_ret2
      exact ⟨_, rfl, Own.nil_ _ _, HB1.out.alloc HB1.out.size _⟩
    · rw [hbb] at HHA
      have hsub : T &&& B = T := by
        rw [Nat.and_comm]
        rw [Bool.and_eq_true] at hbb
        exact hbits.2 hbb
      have HOV := Lib.hid (fun W h => hOV hsub hp2 W h)
      clear hOV hbits hab
      simp only [if_true]
      generalize ovl (B : Int) (T : Int) = OV at *
      go_enter Tryz.func26, Tryz.ntmps26
      go_wp2_with (go_at_call 70; refine (HBF.out _).mono ?_; rintro e w' ⟨rfl, kk, rfl⟩)
      have HB1 := Lib.hid (below_drewN (Below.refl w.heap.size w) kk)
      refine (HPY.out (w.drewN kk)).mono ?_
      rintro e w' ⟨rfl, rfl⟩
      have HB2 := Lib.hid (HB1.out.alloc HB1.out.size (.cells #[.int .i64 (P : Int), .int .i64 (Q : Int)] 3))
      go_wp2_with (go_at_call 72; refine (HHA.out _).mono ?_; rintro e w' ⟨rfl, rfl⟩)
      refine (HOV.out _ (hT.below HB2.out hT.lt)).mono ?_
      rintro e w3 ⟨v, rfl, o3, b3⟩
      have HO3 := Lib.hid (o3.weak HB2.out.size)
      have HB3 := Lib.hid (HB2.out.trans (b3.mono HB2.out.size))
      clear o3 b3
      go_wp2_with fail
      go_ret2
      exact ⟨_, rfl, HO3.out, HB3.out⟩
  · rw [plOvals_two h2]
    have HPN := Lib.hid (fun W => placesFrom_two_no p q h2 W)
    clear hb h2
    go_enter Tryz.func26, Tryz.ntmps26
    go_wp2_with (go_at_call 70; refine (HBF.out _).mono ?_; rintro e w' ⟨rfl, kk, rfl⟩)
    have HB1 := Lib.hid (below_drewN (Below.refl w.heap.size w) kk)
    refine (HPN.out (w.drewN kk)).mono ?_
    rintro e w' ⟨rfl, rfl⟩
    go_wp2_with fail
    go_ret2
    exact ⟨_, rfl, Own.nil_ _ _, HB1.out.alloc HB1.out.size _⟩
end Go.Proofs.YtmeejnkpaiinaacGreatDoor
/- What the promise of the ovals asks. No program is named here. -/
namespace Go.Proofs.YtmeejnkpaiinaacGreatDoor
set_option linter.unusedVariables false
attribute [local irreducible] octS cN octF syn

theorem cN_oIn (m : Nat) (hm : m < 4096) (h8 : pop (cN m) = 8) : oIn ((cN m : Nat) : Int) = true := by
  have hl := cN_lt m
  unfold oIn cIn
  rw [Bool.and_eq_true, Bool.and_eq_true, wordB_iff, decide_eq_true_eq, wt_pop, h8]
  refine ⟨⟨by omega, ?_⟩, rfl⟩
  exact (codeIn_iff _ (by omega) (by omega)).2 ⟨m, hm, by rw [codeOf_cN m hm]⟩
theorem xor_or_sub {x T : Nat} (h : x &&& T = T) : (x ^^^ T) ||| T = x := Nat.eq_of_testBit_eq fun q => by
  have := congrArg (fun z => z.testBit q) h
  simp only [Nat.testBit_and] at this
  rw [Nat.testBit_or, Nat.testBit_xor]
  cases hx : x.testBit q <;> cases ht : T.testBit q <;> simp_all
theorem ovals_cases (b p q : Int) : plOvals b p q = ([], false) ∨ ∃ (P Q T : Nat) (zs : List Int), p = (P : Int) ∧ q = (Q : Int) ∧ P < 24 ∧ Q < 24 ∧ plOvals b p q = (zs, true) ∧ zs.length = 56 ∧ 2 ^ P + 2 ^ Q = T ∧ T < 16777216 ∧
    (∀ j, j < 56 → (0 ≤ zs.getD j 0 ∧ zs.getD j 0 ≤ 16777215) ∧ plOval b (zs.getD j 0) = true ∧ oIn (orI (zs.getD j 0) (T : Int)) = true) ∧ (∀ i j, i < j → j < 56 → zs.getD i 0 < zs.getD j 0) := by
  rcases h : ovlB b p q with _ | _
  · left; simp [plOvals, h]
  right
  have e0 : plOvals b p q = (ovl b (powI p + powI q), true) := by simp [plOvals, h]
  unfold ovlB at h
  simp only [Bool.and_eq_true, decide_eq_true_eq] at h
  obtain ⟨h1, ⟨h2, h3⟩, ⟨h4, h5⟩, h6, h7, h8⟩ := h
  obtain ⟨B, rfl, hB⟩ := baseB_nat h1
  obtain ⟨P, rfl⟩ := Int.eq_ofNat_of_zero_le h2
  obtain ⟨Q, rfl⟩ := Int.eq_ofNat_of_zero_le h4
  have hPQ : P ≠ Q := by omega
  have bitB : ∀ x : Nat, bitI (B : Int) (x : Int) = 1 → B.testBit x = true := fun x hx => by
    rw [bitI_nat] at hx
    cases e : B.testBit x
    · rw [e] at hx; exact absurd hx (by decide)
    · rfl
  have hT : Sub (2 ^ P ||| 2 ^ Q) B := has_bits.2 ⟨bitB P h7, bitB Q h8⟩
  have hp2 := pair_pop P Q (by omega) (by omega) hPQ
  have hTl : 2 ^ P ||| 2 ^ Q < 16777216 := or_lt _ Q (pow_lt24 P (by omega)) (by omega)
  rw [powI_or P Q hPQ] at e0
  have hsum := pow_or P Q hPQ
  generalize 2 ^ P ||| 2 ^ Q = T at *
  have hlen := ovl_len hB hT hp2
  refine ⟨P, Q, T, _, rfl, rfl, by omega, by omega, e0, hlen, hsum, hTl, fun j hj => ?_, fun i j hij hj => asc_get (ovl_asc B T) hij (by omega)⟩
  have hm : (ovl (B : Int) (T : Int)).getD j 0 ∈ ovl (B : Int) (T : Int) := by rw [← getD_at _ j (by omega)]; exact List.getElem_mem _
  obtain ⟨m, m1, m8, mT, me⟩ := (ovl_mem _).1 hm
  obtain ⟨o1, o2, o3, o4⟩ := ovl_oval hB hT hp2 m1 m8 mT
  have hTm : cN m &&& T = T := by
    have h1 : Sub T (cN m) := by rw [← mT]; exact and_sub _ _
    exact h1
  rw [me, orI_nat', xor_or_sub hTm]
  refine ⟨⟨by omega, by omega⟩, ?_, cN_oIn m m1 m8⟩
  unfold plOval arcB
  rw [baseB_of hB, (wordB_iff _).2 ⟨by omega, by omega⟩, wt_pop, o2, andI_nat, o3, (thinB_iff hB).2 o4]
  rfl
end Go.Proofs.YtmeejnkpaiinaacGreatDoor
/- Drawing a base and two places: DrawPlaneOvals. -/
namespace Go.Proofs.YtmeejnkpaiinaacGreatDoor
open Go.RowKit
set_option linter.unusedVariables false
set_option linter.unusedSimpArgs false
attribute [local irreducible] octS cN octF syn

set_option maxHeartbeats 4000000 in
theorem DrawPlaneOvals_calls (A : Option Addr) (c : Nat) (bs : List Int) (w : World) (hr : Rds w w.heap.size .u8 A bs) (hc : bs.length ≤ c) (hm : c ≤ maxLen) (hv : ∀ i, 0 ≤ bs.getD i 0 ∧ bs.getD i 0 ≤ 255) :
    Calls Tryz.prog 25 #[.slice A bs.length c] w fun e w' => ∃ b x y : Int, e = .returned (.tuple #[.int .i64 b, .int .i64 x, .int .i64 y]) ∧ Below w.heap.size w w' := by
  go_enter Tryz.func25, Tryz.ntmps25
  go_wp2_with fail
  refine (l6Open_calls A c bs _ hr hc hm hv).mono ?_
  rintro e w1 ⟨g, rfl, hg, r1, b1⟩
  go_wp2_with fail
  refine (l92Base_calls g 0 _ r1 (by omega)).mono ?_
  rintro e w2 ⟨b, q1, rfl, b0, b2, hq1, r2, g2⟩
  have HB2 := Lib.hid (b1.trans (grown_below g2 hg b1.size))
  have hg2 : g < w2.heap.size := r2.lt
  clear g2 b1 r1 hr hv
  obtain ⟨W, hmask⟩ := mask_step b b0 b2
  have HPL := Lib.hid (l1Places_calls W w2)
  go_wp2_with fail
  refine HPL.out.mono ?_
  rintro e w3 ⟨v, rfl, o3, b3⟩
  clear HPL hmask
  obtain ⟨A1, c1, rfl⟩ := o3.slice
  have R3 := Lib.hid (r2.below b3)
  have HB3 := Lib.hid (HB2.out.trans (b3.mono HB2.out.size))
  have O3 := Lib.hid o3
  clear o3 b3 r2
  have HL63 := Lib.hid (O3.out.len_le)
  have hL24 : (plI W).length ≤ 24 := by unfold plI; rw [List.length_map, ← pop_pl]; exact pop_le W
  generalize plI W = L at *
  by_cases h2 : L.length < 2
  · have h2i : (L.length : Int) < 2 := by omega
    clear O3 h2
    go_wp2_with fail
    go_ret3
    exact ⟨_, _, _, rfl, HB3.out⟩
  · have h2i : ¬ (L.length : Int) < 2 := by omega
    have hnn : (0 : Int) ≤ (L.length : Int) := by omega
    obtain ⟨gz, rfl, hgz1, hgz2⟩ := own_at O3.out (by omega)
    have hgzg : gz ≠ g := by omega
    have k0 : ∀ j, j < L.length → w3.cell? ⟨gz, j, none⟩ = some (.int .i64 (L.getD j 0)) := fun j hj => O3.out.cell hj
    clear O3
    go_wp2_with fail
    refine (pick_calls g _ (L.length : Int) _ (by exact R3.out) (by omega) (by omega) (by omega)).mono ?_
    rintro e w4 ⟨a, rfl, a0, a1, r4, g4⟩
    obtain ⟨ja, rfl⟩ := Int.eq_ofNat_of_zero_le a0
    have R4 := Lib.hid r4
    have HB4 := Lib.hid (HB3.out.trans (grown_below g4 hg HB3.out.size))
    have hcells : ∀ j, j < L.length → w4.cell? ⟨gz, j, none⟩ = some (.int .i64 (L.getD j 0)) := fun j hj => (World.cell?_of_block (g4.block gz hgz2 (fun e => by simp at e; omega))).trans (k0 j hj)
    have hs4 : w.heap.size ≤ w4.heap.size := HB4.out.size
    have hca := hcells ja (by omega)
    generalize L.getD ja 0 = p at hca
    clear g4 r4 k0 h2
    have HC := Lib.hid hcells
    clear hcells
    go_wp2_with fail
    have hcells := HC.out
    refine wp_region_held_drew (S := fun w' => ∀ j, j < L.length → w'.cell? ⟨gz, j, none⟩ = some (.int .i64 (L.getD j 0))) (by kernel_rfl) hcells (fun hd => ?_)
    refine wpAnyH_take (i := 0) (v := .int .i64 b) rfl (by kernel_rfl) (by kernel_rfl) (by kernel_rfl) (fun _ _ _ h => h) (Or.inl ⟨by kernel_rfl, fun w _ => by kernel_rfl⟩) hd ?_
    change wpAnyH _ _ _ _ _ _ _ (Act.put _ (some 27) (.int .i64 b)) _
    simp only [Act.put, List.setIfInBounds_toArray, List.set_cons_zero, List.set_cons_succ]
    refine wpAnyH_take (i := 1) (v := .int .i64 p) rfl (by kernel_rfl) (by kernel_rfl) (by kernel_rfl) (fun _ _ _ h => h) (Or.inl ⟨by kernel_rfl, fun w _ => by kernel_rfl⟩) hd ?_
    change wpAnyH _ _ _ _ _ _ _ (Act.put _ (some 28) (.int .i64 p)) _
    simp only [Act.put, List.setIfInBounds_toArray, List.set_cons_zero, List.set_cons_succ]
    refine wpAnyH_take (i := 2) (v := .slice (some ⟨gz, 0, none⟩) L.length c1) rfl (by kernel_rfl) (by kernel_rfl) (by kernel_rfl) (fun _ _ _ h => h) (Or.inl ⟨by kernel_rfl, fun w _ => by kernel_rfl⟩) hd ?_
    change wpAnyH _ _ _ _ _ _ _ (Act.put _ (some 29) (.slice (some ⟨gz, 0, none⟩) L.length c1)) _
    simp only [Act.put, List.setIfInBounds_toArray, List.set_cons_zero, List.set_cons_succ]
    refine wpAnyH_take (i := 3) (v := .pointer (some ⟨g, 0, none⟩)) rfl (by kernel_rfl) (by kernel_rfl) (by kernel_rfl) (fun _ _ _ h => h) (Or.inl ⟨by kernel_rfl, fun w _ => by kernel_rfl⟩) hd ?_
    change wpAnyH _ _ _ _ _ _ _ (Act.put _ (some 30) (.pointer (some ⟨g, 0, none⟩))) _
    simp only [Act.put, List.setIfInBounds_toArray, List.set_cons_zero, List.set_cons_succ]
    refine wpAnyH_take (i := 4) (v := .slice (some ⟨gz, 0, none⟩) L.length c1) rfl (by kernel_rfl) (by kernel_rfl) (by kernel_rfl) (fun _ _ _ h => h) (Or.inl ⟨by kernel_rfl, fun w _ => by kernel_rfl⟩) hd ?_
    change wpAnyH _ _ _ _ _ _ _ (Act.put _ (some 31) (.slice (some ⟨gz, 0, none⟩) L.length c1)) _
    simp only [Act.put, List.setIfInBounds_toArray, List.set_cons_zero, List.set_cons_succ]
    refine wpAnyH_take (i := 5) (v := .int .i64 (L.length : Int)) rfl (by kernel_rfl) (by kernel_rfl) (by kernel_rfl) (fun _ _ _ h => h) (Or.inl ⟨by kernel_rfl, fun w _ => by kernel_rfl⟩) hd ?_
    change wpAnyH _ _ _ _ _ _ _ (Act.put _ (some 32) (.int .i64 (L.length : Int))) _
    simp only [Act.put, List.setIfInBounds_toArray, List.set_cons_zero, List.set_cons_succ]
    refine wpAnyH_ready (rs := [6]) (by kernel_rfl) (by simp) ?_
    refine AllReadyH.cons rfl (fun K hK => ?_) AllReadyH.nil
    go_simp
    go_at_call 61
    refine (pick_calls g _ (L.length : Int) _ (by exact R4.out) (by omega) (by omega) (by omega)).mono ?_
    rintro e w6 ⟨zz, rfl, zz0, zz1, r6, g6⟩
    have hd2 : ∀ j, j < L.length → w6.cell? ⟨gz, j, none⟩ = some (.int .i64 (L.getD j 0)) := fun j hj => (World.cell?_of_block (g6.block gz (World.block_lt_of_cell? w4 ⟨gz, j, none⟩ (hcells j hj)) (fun e => by simp at e; omega))).trans (hcells j hj)
    have HB6 := Lib.hid (HB4.out.trans (((Below.refl w.heap.size w4).drew).trans (grown_below g6 hg hs4)))
    obtain ⟨jz, rfl⟩ := Int.eq_ofNat_of_zero_le zz0
    have hjz : jz < L.length := by omega
    have hjz1 : (jz : Int) < (L.length : Int) := by omega
    refine hK.out _ _ hd2 (fun _ => ?_)
    refine wpAnyH_take (i := 7) (v := .pointer (some ⟨gz, jz, none⟩)) rfl (by kernel_rfl) (by kernel_rfl) (by kernel_rfl) (fun _ _ _ h => h) (Or.inl ⟨by kernel_rfl, fun w hS => by go_simp⟩) hd2 ?_
    change wpAnyH _ _ _ _ _ _ _ (Act.put _ (some 34) (.pointer (some ⟨gz, jz, none⟩))) _
    simp only [Act.put, List.setIfInBounds_toArray, List.set_cons_zero, List.set_cons_succ]
    refine wpAnyH_take (i := 8) (v := .int .i64 (L.getD jz 0)) rfl (by kernel_rfl) (by kernel_rfl) (by kernel_rfl) (fun _ _ _ h => h) (Or.inl ⟨by kernel_rfl, fun w hS => by have hS1 := hS jz hjz; go_simp⟩) hd2 ?_
    change wpAnyH _ _ _ _ _ _ _ (Act.put _ (some 35) (.int .i64 (L.getD jz 0))) _
    simp only [Act.put, List.setIfInBounds_toArray, List.set_cons_zero, List.set_cons_succ]
    refine wpAnyH_take (i := 9) (v := .int .i64 b) rfl (by kernel_rfl) (by kernel_rfl) (by kernel_rfl) (fun _ _ _ h => h) (Or.inl ⟨by kernel_rfl, fun w _ => by kernel_rfl⟩) hd2 ?_
    change wpAnyH _ _ _ _ _ _ _ (Act.put _ (some 2) (.int .i64 b)) _
    simp only [Act.put, List.setIfInBounds_toArray, List.set_cons_zero, List.set_cons_succ]
    refine wpAnyH_take (i := 10) (v := .int .i64 p) rfl (by kernel_rfl) (by kernel_rfl) (by kernel_rfl) (fun _ _ _ h => h) (Or.inl ⟨by kernel_rfl, fun w _ => by kernel_rfl⟩) hd2 ?_
    change wpAnyH _ _ _ _ _ _ _ (Act.put _ (some 3) (.int .i64 p)) _
    simp only [Act.put, List.setIfInBounds_toArray, List.set_cons_zero, List.set_cons_succ]
    refine wpAnyH_take (i := 11) (v := .int .i64 (L.getD jz 0)) rfl (by kernel_rfl) (by kernel_rfl) (by kernel_rfl) (fun _ _ _ h => h) (Or.inl ⟨by kernel_rfl, fun w _ => by kernel_rfl⟩) hd2 ?_
    change wpAnyH _ _ _ _ _ _ _ (Act.put _ (some 4) (.int .i64 (L.getD jz 0))) _
    simp only [Act.put, List.setIfInBounds_toArray, List.set_cons_zero, List.set_cons_succ]
    refine wpAnyH_done (by kernel_rfl) ?_ _
    go_wp2_with fail
    go_ret3
    exact ⟨_, _, _, rfl, HB6.out⟩
end Go.Proofs.YtmeejnkpaiinaacGreatDoor
/- (M46 again, for the text R3.) For rows that say 'leaving' and cards that say 'goes' of a call that itself starts no goroutine. No program is named here. -/
namespace Go.Proofs.YtmeejnkpaiinaacGreatDoor
open Go

/-- Who returns alone returns with nobody left but such as leave. -/
theorem leaving_of_handed {a : Assume} {C : Checked} {os : Os} {f : FuncId} {r : Reach} {Pre : World → Array Value → Prop} {Post : World → Array Value → Value → World → Prop} (h : ReturnsInHanded a C os f r Pre Post) : ReturnsInLeavingWide a C os f r Pre Post := fun enter => by
  obtain ⟨g0, g1, g2, g3, all⟩ := h enter
  refine ⟨g0, g1, g2, g3, fun w tape i hf => ?_⟩
  obtain ⟨n, v, w', hn, hc, hr, hp, ⟨j, last, hj, hs, hq, hh, he⟩, ha⟩ := all w tape i hf
  exact ⟨n, v, w', hn, hc, hr, hp, ⟨j, last, hj, hs, hh, onlyLeaving_of_quiet hq, he⟩, ha⟩
/-- A tied card with no alternative whose row goes. -/
theorem tied_goes (Lk : Looks) {p : Pinned} {s : OpenSpec} {c : OpenClaim} (kinds : List LaidKind) (tests : Bool) (har : Bool × String) (lk : Bool)
    (hc : c.holds p s) (hw : c.wfByText s = true) (htie : c.laidByTextAt Lk p kinds tests)
    (hst : c.start = .entering) (hnb : c.noBlocks = false ∧ c.again = false) (hm : p.checked.prog.mainIs = some (har.1, har.2.toList)) (hn : (!har.1 && har.2.isEmpty && !lk) = false)
    (hl : ∀ f fn, p.checked.prog.funcNamed c.func = some f → p.checked.prog.funcs[f]? = some fn → lk = p.checked.prog.looks [] ∧ ∀ (j : Nat) t, fn.params[j]? = some t → p.checked.prog.wantsStandIn t = false)
    (hg : true = c.goesBy p.checked.prog) :
    Claim7.holds p (.plain s) { stood := { row := c, standIns := [], harness := har, looks := lk }, kinds := [], alts := [], goes := true, laidByText := true, laidKinds := kinds, laidTests := tests, laidLooks := Lk } := by
  have h6 : Claim7.isSixth { stood := { row := c, standIns := [], harness := har, looks := lk }, kinds := [] } = false := by simpa [Claim7.isSixth] using hn
  exact ⟨Claim7.tied_new_at Lk kinds tests (Claim7.new_of_sixth hc har lk hst hnb hm h6 hl) hw, (fun D hD => by cases hD), htie, (fun h => by cases h), hg⟩
end Go.Proofs.YtmeejnkpaiinaacGreatDoor
/- The walk of the promise of the ovals. -/
namespace Go.Proofs.YtmeejnkpaiinaacGreatDoor
open Go.RowKit
set_option linter.unusedVariables false
set_option linter.unusedSimpArgs false
attribute [local irreducible] octS cN octF syn

set_option maxHeartbeats 8000000 in
theorem walk_FnOvals (a0 : Option Addr) (len0 cap0 : Nat) (z0 : List Int) (w : World) (w0 : IsRow .u8 w a0 len0 cap0 z0) (hT : Tab3E w) :
    Calls Tryz.prog 6 #[.slice a0 len0 cap0] w fun e w' => e = .returned (.bool true) ∧ Below w.heap.size w w' := by
  obtain ⟨bs, rfl, hr, hc, hm, hv⟩ := w0.bytes
  have hm' := hm
  unfold maxLen at hm'
  by_cases hbig : 1048576 < bs.length
  · go_enter Tryz.func6, Tryz.ntmps6
    go_wp2_with fail
    go_ret
    exact ⟨rfl, Below.refl _ _⟩
  have hbig' : bs.length ≤ 1048576 := by omega
  clear hbig
  go_enter Tryz.func6, Tryz.ntmps6
  go_wp2_with fail
  refine (DrawPlaneOvals_calls _ _ bs _ hr hc hm hv).mono ?_
  rintro e w1 ⟨b, p, q, rfl, b1⟩
  have B0 := Lib.hid (b1)
  rcases ovals_cases b p q with H0 | ⟨P, Q, T, zs, rfl, rfl, hP, hQ, H0, hlen, hsum, hTl, hall, hasc⟩
  · have H := Lib.hid H0
    clear H0
    go_wp2_with fail
    refine (iPlaneOvals_calls b p q _ (hT.below (B0.out) hT.lt).two).mono ?_
    rintro e w1_ ⟨v1_, he, o1_, b1_⟩
    rw [H.out] at he o1_
    dsimp only at he o1_
    subst he
    obtain ⟨Ax, cx, rfl⟩ := o1_.slice
    have B1 := Lib.hid ((B0.out).trans (b1_.mono (B0.out).size))
    have Ox1 := Lib.hid (o1_.weak (B0.out).size)
    go_wp2_with fail
    refine (sPlaneOvals_calls b p q _).mono ?_
    rintro e w2_ ⟨v2_, he, o2_, b2_⟩
    rw [H.out] at he o2_
    dsimp only at he o2_
    subst he
    obtain ⟨Ay, cy, rfl⟩ := o2_.slice
    have B2 := Lib.hid ((B1.out).trans (b2_.mono (B1.out).size))
    have Ox2 := Lib.hid ((Ox1.out).below b2_)
    have Oy2 := Lib.hid (o2_.weak (B1.out).size)
    go_wp2_with fail
    refine (sameInts_calls _ _ _ _ [] [] _ (Ox2.out).rds (Oy2.out).rds (Ox2.out).len_le (Oy2.out).len_le).mono ?_
    rintro e w' ⟨he, k3_, rfl⟩
    rw [eqL_refl] at he
    subst he
    have B3 := Lib.hid (below_drewN (B2.out) k3_)
    have Ox3 := Lib.hid ((Ox2.out).drewN k3_)
    have Oy3 := Lib.hid ((Oy2.out).drewN k3_)
    go_wp2_with fail
    refine (sameInts_calls _ _ _ _ [] [] _ (Ox3.out).rds (Oy3.out).rds (Ox3.out).len_le (Oy3.out).len_le).mono ?_
    rintro e w' ⟨he, k4_, rfl⟩
    rw [eqL_refl] at he
    subst he
    have B4 := Lib.hid (below_drewN (B3.out) k4_)
    go_wp2_with fail
    go_ret
    first | exact ⟨rfl, B4.out⟩ | exact ⟨rfl, by have hB := B4.out; simp only [World.drewN_drewN] at hB; exact hB⟩
  · have H := Lib.hid H0
    have HLEN := Lib.hid hlen
    have HASC := Lib.hid hasc
    have hP0 : (0 : Int) ≤ (P : Int) := by omega
    have hP1 : (P : Int) < 64 := by omega
    have hQ0 : (0 : Int) ≤ (Q : Int) := by omega
    have hQ1 : (Q : Int) < 64 := by omega
    have hp24 : 2 ^ P < 16777216 := pow_lt24 P hP
    have hq24 : 2 ^ Q < 16777216 := pow_lt24 Q hQ
    have e1 : ((2 : Int) ^ P) = ((2 ^ P : Nat) : Int) := by push_cast; rfl
    have e2 : ((2 : Int) ^ Q) = ((2 ^ Q : Nat) : Int) := by push_cast; rfl
    generalize (2 : Nat) ^ P = pw at *
    generalize (2 : Nat) ^ Q = qw at *
    have v1 : IntKind.i64.wrap ((2 : Int) ^ P) = (pw : Int) := by rw [IntKind.wrap_i64, e1]; omega
    have v2 : IntKind.i64.wrap ((2 : Int) ^ Q) = (qw : Int) := by rw [IntKind.wrap_i64, e2]; omega
    have v3 : IntKind.i64.wrap ((pw : Int) + (qw : Int)) = (T : Int) := by rw [IntKind.wrap_i64]; omega
    obtain ⟨⟨y0a, y0b⟩, o0, i0⟩ := hall 0 (by decide)
    obtain ⟨⟨y5a, y5b⟩, o5, i5⟩ := hall 55 (by decide)
    have or0 : bits .or .i64 (zs.getD 0 0) (T : Int) = orI (zs.getD 0 0) (T : Int) := or_i64 _ _ y0a (by omega) (by omega) (by omega)
    have or5 : bits .or .i64 (zs.getD 55 0) (T : Int) = orI (zs.getD 55 0) (T : Int) := or_i64 _ _ y5a (by omega) (by omega) (by omega)
    generalize orI (zs.getD 0 0) (T : Int) = u0 at *
    generalize orI (zs.getD 55 0) (T : Int) = u5 at *
    have HO0 := Lib.hid o0
    have HO5 := Lib.hid o5
    have HI0 := Lib.hid i0
    have HI5 := Lib.hid i5
    clear H0 hlen hasc hall hsum e1 e2 o0 o5 i0 i5 hP hQ
    go_wp2_with fail
    refine (iPlaneOvals_calls b (P : Int) (Q : Int) _ (hT.below (B0.out) hT.lt).two).mono ?_
    rintro e w1_ ⟨v1_, he, o1_, b1_⟩
    rw [H.out] at he o1_
    dsimp only at he o1_
    subst he
    obtain ⟨Ax, cx, rfl⟩ := o1_.slice
    have B1 := Lib.hid ((B0.out).trans (b1_.mono (B0.out).size))
    have Ox1 := Lib.hid (o1_.weak (B0.out).size)
    go_wp2_with fail
    refine (sPlaneOvals_calls b (P : Int) (Q : Int) _).mono ?_
    rintro e w2_ ⟨v2_, he, o2_, b2_⟩
    rw [H.out] at he o2_
    dsimp only at he o2_
    subst he
    obtain ⟨Ay, cy, rfl⟩ := o2_.slice
    have B2 := Lib.hid ((B1.out).trans (b2_.mono (B1.out).size))
    have Ox2 := Lib.hid ((Ox1.out).below b2_)
    have Oy2 := Lib.hid (o2_.weak (B1.out).size)
    go_wp2_with fail
    refine (sameInts_calls _ _ _ _ zs zs _ (Ox2.out).rds (Oy2.out).rds (Ox2.out).len_le (Oy2.out).len_le).mono ?_
    rintro e w' ⟨he, k3_, rfl⟩
    rw [eqL_refl] at he
    subst he
    have HBZ := Lib.hid (below_drewN (B2.out) k3_)
    have OX := Lib.hid ((Ox2.out).drewN k3_)
    rw [HLEN.out] at OX ⊢
    obtain ⟨gz, rfl, hgz1, hgz2⟩ := own_at OX.out (by decide)
    generalize (w2_.drewN k3_) = W0 at *
    clear b1_ b2_ o1_ o2_ B1 B2 Ox1 Ox2 Oy2
    go_wp2_with fail
    refine wp_region_held_drew (S := fun _ => True) (by kernel_rfl) trivial (fun hd => ?_)
    refine wpAnyH_take (i := 0) (v := .int .i64 (P : Int)) rfl (by kernel_rfl) (by kernel_rfl) (by kernel_rfl) (fun _ _ _ h => h) (Or.inl ⟨by kernel_rfl, fun w _ => by kernel_rfl⟩) hd ?_
    change wpAnyH _ _ _ _ _ _ _ (Act.put _ (some 56) (.int .i64 (P : Int))) _
    simp only [Act.put, List.setIfInBounds_toArray, List.set_cons_zero, List.set_cons_succ]
    refine wpAnyH_take (i := 1) (v := .int .i64 (pw : Int)) rfl (by kernel_rfl) (by kernel_rfl) (by kernel_rfl) (fun _ _ _ h => h) (Or.inl ⟨by kernel_rfl, fun w hS => by go_simp⟩) hd ?_
    change wpAnyH _ _ _ _ _ _ _ (Act.put _ (some 57) (.int .i64 (pw : Int))) _
    simp only [Act.put, List.setIfInBounds_toArray, List.set_cons_zero, List.set_cons_succ]
    refine wpAnyH_take (i := 2) (v := .int .i64 (Q : Int)) rfl (by kernel_rfl) (by kernel_rfl) (by kernel_rfl) (fun _ _ _ h => h) (Or.inl ⟨by kernel_rfl, fun w _ => by kernel_rfl⟩) hd ?_
    change wpAnyH _ _ _ _ _ _ _ (Act.put _ (some 58) (.int .i64 (Q : Int))) _
    simp only [Act.put, List.setIfInBounds_toArray, List.set_cons_zero, List.set_cons_succ]
    refine wpAnyH_take (i := 3) (v := .int .i64 (qw : Int)) rfl (by kernel_rfl) (by kernel_rfl) (by kernel_rfl) (fun _ _ _ h => h) (Or.inl ⟨by kernel_rfl, fun w hS => by go_simp⟩) hd ?_
    change wpAnyH _ _ _ _ _ _ _ (Act.put _ (some 59) (.int .i64 (qw : Int))) _
    simp only [Act.put, List.setIfInBounds_toArray, List.set_cons_zero, List.set_cons_succ]
    refine wpAnyH_take (i := 4) (v := .int .i64 (T : Int)) rfl (by kernel_rfl) (by kernel_rfl) (by kernel_rfl) (fun _ _ _ h => h) (Or.inl ⟨by kernel_rfl, fun w hS => by go_simp⟩) hd ?_
    change wpAnyH _ _ _ _ _ _ _ (Act.put _ (some 60) (.int .i64 (T : Int))) _
    simp only [Act.put, List.setIfInBounds_toArray, List.set_cons_zero, List.set_cons_succ]
    refine wpAnyH_take (i := 5) (v := .int .i64 (T : Int)) rfl (by kernel_rfl) (by kernel_rfl) (by kernel_rfl) (fun _ _ _ h => h) (Or.inl ⟨by kernel_rfl, fun w _ => by kernel_rfl⟩) hd ?_
    change wpAnyH _ _ _ _ _ _ _ (Act.put _ (some 10) (.int .i64 (T : Int))) _
    simp only [Act.put, List.setIfInBounds_toArray, List.set_cons_zero, List.set_cons_succ]
    refine wpAnyH_done (by kernel_rfl) ?_ _
    clear hd v1 v2 v3
    go_wp2_with fail
    go_loopw [11] (fun v wq => ∃ k : Nat, v = .int .i64 (k : Int) ∧ 1 ≤ k ∧ k ≤ 56 ∧ Hid (Own wq w.heap.size (.slice (some ⟨gz, 0, none⟩) 56 cx) zs) ∧ Hid (Below w.heap.size w wq)) (fun v _ => 56 - (intOf v).toNat)
    case atStart => exact ⟨1, rfl, by omega, by omega, Lib.hid (by first | exact OX.out | exact OX.out.drewN 1), Lib.hid HBZ.out.drew⟩
    case round =>
      obtain ⟨k, rfl, hk0, hk, HX, HB⟩ := hrel
      by_cases hlt : k < 56
      · obtain ⟨j, hj⟩ : ∃ j, k = j + 1 := ⟨k - 1, by omega⟩
        have hk1 : (k : Int) < 56 := by omega
        have hk2 : (0 : Int) ≤ (k : Int) := by omega
        have hj1 : (j : Int) < 56 := by omega
        have hj2 : (0 : Int) ≤ (j : Int) := by omega
        have vj : IntKind.i64.wrap ((k : Int) - 1) = (j : Int) := by rw [IntKind.wrap_i64]; omega
        have ck : wr.cell? ⟨gz, k, none⟩ = some (.int .i64 (zs.getD k 0)) := HX.out.cell (by rw [HLEN.out]; exact hlt)
        have cj : wr.cell? ⟨gz, j, none⟩ = some (.int .i64 (zs.getD j 0)) := HX.out.cell (by rw [HLEN.out]; omega)
        have hgt : ¬ zs.getD k 0 ≤ zs.getD j 0 := by have := HASC.out j k (by omega) hlt; omega
        generalize zs.getD k 0 = zk at *
        generalize zs.getD j 0 = zj at *
        have HJ := Lib.hid hj
        clear hj
        go_wp2_with fail
        refine wp_region_held_drew (S := fun w' => w'.cell? ⟨gz, k, none⟩ = some (.int .i64 zk) ∧ w'.cell? ⟨gz, j, none⟩ = some (.int .i64 zj)) (by kernel_rfl) ⟨ck, cj⟩ (fun hd => ?_)
        refine wpAnyH_take (i := 0) (v := .slice (some ⟨gz, 0, none⟩) 56 cx) rfl (by kernel_rfl) (by kernel_rfl) (by kernel_rfl) (fun _ _ _ h => h) (Or.inl ⟨by kernel_rfl, fun w _ => by kernel_rfl⟩) hd ?_
        change wpAnyH _ _ _ _ _ _ _ (Act.put _ (some 67) (.slice (some ⟨gz, 0, none⟩) 56 cx)) _
        simp only [Act.put, List.setIfInBounds_toArray, List.set_cons_zero, List.set_cons_succ]
        refine wpAnyH_take (i := 1) (v := .int .i64 (k : Int)) rfl (by kernel_rfl) (by kernel_rfl) (by kernel_rfl) (fun _ _ _ h => h) (Or.inl ⟨by kernel_rfl, fun w _ => by kernel_rfl⟩) hd ?_
        change wpAnyH _ _ _ _ _ _ _ (Act.put _ (some 68) (.int .i64 (k : Int))) _
        simp only [Act.put, List.setIfInBounds_toArray, List.set_cons_zero, List.set_cons_succ]
        refine wpAnyH_take (i := 2) (v := .pointer (some ⟨gz, k, none⟩)) rfl (by kernel_rfl) (by kernel_rfl) (by kernel_rfl) (fun _ _ _ h => h) (Or.inl ⟨by kernel_rfl, fun w hS => by go_simp⟩) hd ?_
        change wpAnyH _ _ _ _ _ _ _ (Act.put _ (some 69) (.pointer (some ⟨gz, k, none⟩))) _
        simp only [Act.put, List.setIfInBounds_toArray, List.set_cons_zero, List.set_cons_succ]
        refine wpAnyH_take (i := 3) (v := .int .i64 zk) rfl (by kernel_rfl) (by kernel_rfl) (by kernel_rfl) (fun _ _ _ h => h) (Or.inl ⟨by kernel_rfl, fun w hS => by have hS1 := hS.1; have hS2 := hS.2; go_simp⟩) hd ?_
        change wpAnyH _ _ _ _ _ _ _ (Act.put _ (some 70) (.int .i64 zk)) _
        simp only [Act.put, List.setIfInBounds_toArray, List.set_cons_zero, List.set_cons_succ]
        refine wpAnyH_take (i := 4) (v := .slice (some ⟨gz, 0, none⟩) 56 cx) rfl (by kernel_rfl) (by kernel_rfl) (by kernel_rfl) (fun _ _ _ h => h) (Or.inl ⟨by kernel_rfl, fun w _ => by kernel_rfl⟩) hd ?_
        change wpAnyH _ _ _ _ _ _ _ (Act.put _ (some 71) (.slice (some ⟨gz, 0, none⟩) 56 cx)) _
        simp only [Act.put, List.setIfInBounds_toArray, List.set_cons_zero, List.set_cons_succ]
        refine wpAnyH_take (i := 5) (v := .int .i64 (k : Int)) rfl (by kernel_rfl) (by kernel_rfl) (by kernel_rfl) (fun _ _ _ h => h) (Or.inl ⟨by kernel_rfl, fun w _ => by kernel_rfl⟩) hd ?_
        change wpAnyH _ _ _ _ _ _ _ (Act.put _ (some 72) (.int .i64 (k : Int))) _
        simp only [Act.put, List.setIfInBounds_toArray, List.set_cons_zero, List.set_cons_succ]
        refine wpAnyH_take (i := 6) (v := .int .i64 (j : Int)) rfl (by kernel_rfl) (by kernel_rfl) (by kernel_rfl) (fun _ _ _ h => h) (Or.inl ⟨by kernel_rfl, fun w hS => by go_simp⟩) hd ?_
        change wpAnyH _ _ _ _ _ _ _ (Act.put _ (some 73) (.int .i64 (j : Int))) _
        simp only [Act.put, List.setIfInBounds_toArray, List.set_cons_zero, List.set_cons_succ]
        refine wpAnyH_take (i := 7) (v := .pointer (some ⟨gz, j, none⟩)) rfl (by kernel_rfl) (by kernel_rfl) (by kernel_rfl) (fun _ _ _ h => h) (Or.inl ⟨by kernel_rfl, fun w hS => by go_simp⟩) hd ?_
        change wpAnyH _ _ _ _ _ _ _ (Act.put _ (some 74) (.pointer (some ⟨gz, j, none⟩))) _
        simp only [Act.put, List.setIfInBounds_toArray, List.set_cons_zero, List.set_cons_succ]
        refine wpAnyH_take (i := 8) (v := .int .i64 zj) rfl (by kernel_rfl) (by kernel_rfl) (by kernel_rfl) (fun _ _ _ h => h) (Or.inl ⟨by kernel_rfl, fun w hS => by have hS1 := hS.1; have hS2 := hS.2; go_simp⟩) hd ?_
        change wpAnyH _ _ _ _ _ _ _ (Act.put _ (some 75) (.int .i64 zj)) _
        simp only [Act.put, List.setIfInBounds_toArray, List.set_cons_zero, List.set_cons_succ]
        refine wpAnyH_take (i := 9) (v := .bool false) rfl (by kernel_rfl) (by kernel_rfl) (by kernel_rfl) (fun _ _ _ h => h) (Or.inl ⟨by kernel_rfl, fun w hS => by go_simp⟩) hd ?_
        change wpAnyH _ _ _ _ _ _ _ (Act.put _ (some 76) (.bool false)) _
        simp only [Act.put, List.setIfInBounds_toArray, List.set_cons_zero, List.set_cons_succ]
        refine wpAnyH_done (by kernel_rfl) ?_ _
        go_wp2_with fail
        go_roundw
        case rel => exact ⟨k + 1, by go_num, by omega, by omega, Lib.hid (by first | exact HX.out | exact HX.out.drewN 1), Lib.hid HB.out.drew⟩
        case measure => simp [intOf]; omega
      · obtain rfl : k = 56 := by omega
        have c0 : wr.cell? ⟨gz, 0, none⟩ = some (.int .i64 (zs.getD 0 0)) := HX.out.cell (by rw [HLEN.out]; decide)
        have c5 : wr.cell? ⟨gz, 55, none⟩ = some (.int .i64 (zs.getD 55 0)) := HX.out.cell (by rw [HLEN.out]; decide)
        generalize zs.getD 0 0 = y0 at *
        generalize zs.getD 55 0 = y5 at *
        have hg0 : gz < wr.heap.size := World.block_lt_of_cell? wr ⟨gz, 0, none⟩ c0
        go_wp2_with fail
        refine (iPlaneOval_calls b y0 _ (hT.below (HB.out) hT.lt)).mono ?_
        rintro e w4 ⟨he, b4⟩
        rw [HO0.out] at he
        subst he
        have d0 := (b4.cell (p := ⟨gz, 0, none⟩) hg0).trans c0
        have d5 := (b4.cell (p := ⟨gz, 55, none⟩) hg0).trans c5
        have HB4 := Lib.hid (HB.out.trans (b4.mono HB.out.size))
        have hg4 : gz < w4.heap.size := World.block_lt_of_cell? w4 ⟨gz, 0, none⟩ d0
        clear b4 c0 c5
        go_wp2_with fail
        refine (iPlaneOval_calls b y5 _ (hT.below (HB4.out) hT.lt)).mono ?_
        rintro e w5 ⟨he, b5⟩
        rw [HO5.out] at he
        subst he
        have f0 := (b5.cell (p := ⟨gz, 0, none⟩) hg4).trans d0
        have f5 := (b5.cell (p := ⟨gz, 55, none⟩) hg4).trans d5
        have HB5 := Lib.hid (HB4.out.trans (b5.mono HB4.out.size))
        have hg5 : gz < w5.heap.size := World.block_lt_of_cell? w5 ⟨gz, 0, none⟩ f0
        clear b5 d0 d5
        go_wp2_with fail
        refine (iOctadIn_calls u0 _ (hT.below (HB5.out) hT.lt).three).mono ?_
        rintro e w6 ⟨he, b6⟩
        rw [HI0.out] at he
        subst he
        have k5 := (b6.cell (p := ⟨gz, 55, none⟩) hg5).trans f5
        have HB6 := Lib.hid (HB5.out.trans (b6.mono HB5.out.size))
        clear b6 f0 f5
        go_wp2_with fail
        refine (iOctadIn_calls u5 _ (hT.below (HB6.out) hT.lt).three).mono ?_
        rintro e w7 ⟨he, b7⟩
        rw [HI5.out] at he
        subst he
        have HB7 := Lib.hid (HB6.out.trans (b7.mono HB6.out.size))
        go_wp2_with fail
        go_ret
        exact ⟨rfl, HB7.out⟩
end Go.Proofs.YtmeejnkpaiinaacGreatDoor