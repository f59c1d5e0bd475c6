/- Octads through places, listed, of the program. -/
import Derived.Test.YtnfpdonlknkccabDoorC40
import Derived.Test.YtnfpdonlknkccabDoorC44
import Derived.OwnWalkIn
namespace Go.Proofs.YtnfpdonlknkccabDoor
open Go.RowKit Go.Shelf
attribute [local go_sem] Oper.semAt_some
set_option linter.unusedVariables false
attribute [local irreducible] octS cN octF

theorem octs_itL (a b : Int) (wa : IsW a) (wb : IsW b) (k n₀ : Nat) (hk : k = 4096) (w : World) (hn : n₀ ≤ w.heap.size) (hg : tab2G < n₀) (hT : Tab2 w) :
    SeqIt Tryd.prog 54 #[.pointer (some ⟨w.heap.size, 0, none⟩), .pointer (some ⟨w.heap.size + 1, 0, none⟩)] (encO (a := a) (b := b)) 10 (KpOf n₀ w.heap.size (w.heap.size + 2)) (fun ys => ys.map (fun x => x.val) = (octF k).filter (oC a b)) (fun _ => True) 4096 (owW a b w) := by
  have hs := owW_size a b w
  have hc := owW_cells a b w
  have hb := owW_below a b w
  have hT2 := hT.below hb hT.lt
  generalize owW a b w = W at *
  exact octads_it a b wa wb k n₀ w.heap.size (w.heap.size + 2) w.heap.size (w.heap.size + 1) hk W (by omega) (by omega) (Nat.le_refl _) (by omega) (by omega) (by omega) (by omega) (by omega) hg hc.1 hc.2 hT2
theorem own_turnL {A C : World} {B B' : Nat} {row : Option Nat} {v : Value} {xs : List Int} (h : Own A B v xs) (hg : A.grownBy C row) (hr : ∀ r, row = some r → B' ≤ r ∧ ∃ o : Obj, A.heap[r]? = some o ∧ o.isCells = false) : Own C B v xs := by
  refine ⟨h.1, ?_⟩
  rcases h.2 with h1 | ⟨b, cap, cur, h1, h2, h3, h4⟩
  · exact .inl h1
  · refine .inr ⟨b, cap, cur, h1, h2, (hg.block b (Array.getElem?_eq_some_iff.1 h3).1 fun e => ?_).trans h3, h4⟩
    obtain ⟨_, o, ho, hc⟩ := hr b e.symm
    rw [h3] at ho
    cases ho
    cases hc
theorem own_blkL {A : World} {B : Nat} {v : Value} {xs : List Int} (h : Own A B v xs) : ∀ g, v.ownBlock = some g → B ≤ g := by
  intro g hg
  rcases h.2 with ⟨h1, _⟩ | ⟨b, cap, cur, h1, h2, h3, h4⟩
  · rw [h1] at hg; cases hg
  · rw [h1] at hg; cases hg; exact h2
/-- A box that holds a list of the call's own. -/
def ListAt (G B : Nat) (xs : List Int) (V : World) : Prop := ∃ v, V.heap[G]? = some (.cells #[v] 22 (0, 0)) ∧ Own V B v xs
theorem ListAt.own {β : Type} {G B B0 : Nat} (f : β → List Int) (hG : G < B0) : OwnFrom B0 (fun (s : β) V => ListAt G B (f s) V) :=
  fun s A C row ⟨v, h1, h2⟩ hg hr => ⟨v, (hg.block G (Array.getElem?_eq_some_iff.1 h1).1 fun e => by have := (hr G e.symm).1; omega).trans h1, own_turnL h2 hg hr⟩
theorem wpListIn_push {F : Fence} {n : Nat} {ops : Array Oper} {rest : List Oper} {o : Oper} {a : Act} {Q : Exit → Act → World → Prop} (hgd : o.guard = none) (s y : Operand)
    (ho : o.op = .call { callee := .builtin .append, args := #[s, y], argTypes := #[22, 22] })
    (w : World) (B : Nat) (v : Value) (xs : List Int) (x : Int) (c : Nat) (hs : a.eval s = v) (hy : a.eval y = .slice (some ⟨w.heap.size, 0, none⟩) 1 c)
    (hown : Own w B v xs) (hlen : xs.length ≤ 1048576) (hB : B ≤ w.heap.size)
    (h : ∀ v' w', Own w' B v' (xs ++ [x]) → Below B w w' → w.grownBy w' v.ownBlock → wpListIn F n Tryd.prog ops Q rest (a.put o.dst v') w') :
    wpListIn F n Tryd.prog ops Q (o :: rest) a (w.alloc (.cells #[.int .i64 x] 3)) := by
  obtain ⟨i0, hi, hz0, hz1, hz2⟩ := info_parts intRow
  refine wpListIn_append_own _ hgd s y 22 ho B 3 i0 (.int .i64 0) 1 8 Tryd.underlying22 hi hz0 hz1 hz2 rfl (by decide) v xs.length (vals .i64 xs) hs
    (World.ownsRow.alloc hown _) ⟨w.heap.size, 0, none⟩ 1 c [.int .i64 x] hy rfl ?_ ?_ (by unfold maxLen; omega) (by omega) (by simp; omega) ?_
  · intro j u hj
    match j, hj with
    | 0, hj => simp at hj; subst hj; simp [Addr.add]
  · intro u hu; simp at hu; subst hu; rfl
  · intro v' w' h1 h2 _
    have hg : w.grownBy w' v.ownBlock := grown_trans (World.grownBy_alloc w _ _) h2
    refine h v' w' ?_ ((Below.refl B w).grown hg hB (own_row_ge hown)) hg
    unfold Own
    rw [vals_append, show vals .i64 [x] = [Value.int .i64 x] from rfl]
    simpa using h1
/-- The end of a round that has appended. -/
theorem list_fin {w V W2 : World} {B lw mid C : Nat} {v v' : Value} {xs ys : List Int} (h1 : V.heap[w.heap.size]? = some (.cells #[v] 22 (0, 0))) (ho : Own V B v xs) (hB : Below w.heap.size w V) (hg : V.grownBy W2 v.ownBlock) (o2 : Own W2 B v' ys)
    (hlw : w.heap.size < lw) (hm : mid ≤ C) (hGB : w.heap.size < B) (hCB : C ≤ B) (hBV : B ≤ V.heap.size) (D : Nat) (hD : w.heap.size < D) :
    KeepsIn D C V (W2.setCell ⟨w.heap.size, 0, none⟩ v') ∧ KpOf w.heap.size lw mid V (W2.setCell ⟨w.heap.size, 0, none⟩ v') ∧ ListAt w.heap.size B ys (W2.setCell ⟨w.heap.size, 0, none⟩ v') ∧ Below w.heap.size w (W2.setCell ⟨w.heap.size, 0, none⟩ v') := by
  have hv := own_blkL ho
  have hv' := own_blkL o2
  have b1 : Below w.heap.size V W2 := (Below.refl _ _).grown hg hB.size (fun k e => by have := hv k e; omega)
  have b2 : Below w.heap.size V (W2.setCell ⟨w.heap.size, 0, none⟩ v') := b1.setCell (Nat.le_refl _) _
  have hbx : W2.heap[w.heap.size]? = some (.cells #[v] 22 (0, 0)) := (hg.block w.heap.size (Array.getElem?_eq_some_iff.1 h1).1 fun e => by have := hv _ e.symm; omega).trans h1
  have hk : ∀ q, q ≠ w.heap.size → q < B → (W2.setCell ⟨w.heap.size, 0, none⟩ v').heap[q]? = V.heap[q]? := fun q h2 h3 =>
    (Below.heap_setCell W2 ⟨w.heap.size, 0, none⟩ v' q h2).trans (hg.block q (by omega) fun e => by have := hv _ e.symm; omega)
  refine ⟨⟨b2.size, fun q h2 h3 => hk q (by omega) (by omega)⟩, ⟨b2, ⟨b2.size, fun q h2 h3 => hk q (by omega) (by omega)⟩⟩, ⟨v', ?_, o2.set_far (fun e => by have := hv' _ e; simp at this; omega) _⟩, hB.trans b2⟩
  have := heap_setCell_same W2 w.heap.size 0 #[v] 22 v' hbx
  simpa using this
theorem oWith_sorted (t : Int) (k : Nat) (hk : k = 4096) : ((octF k).filter (oC t 0)).mergeSort (fun x y => decide (x ≤ y)) = oWith t := by
  have hp : ((octF k).filter (oC t 0)).Perm (oWith t) := by
    have e : oWith t = octS.filter (oC t 0) := by
      unfold oWith
      refine List.filter_congr fun x _ => ?_
      simp [oC, andI]
    rw [e]
    exact (octF_perm k hk).filter _
  have hq := (List.mergeSort_perm ((octF k).filter (oC t 0)) (fun x y => decide (x ≤ y))).trans hp
  have hn := hq.nodup_iff.2 (oWith_asc t).nodup
  refine asc_ext _ _ ?_ (oWith_asc t) fun x => hq.mem_iff
  unfold Asc
  exact ((ms_pair ((octF k).filter (oC t 0))).and hn).imp fun {a b} h => by omega
theorem placesFrom_yes (A : Option Addr) (c : Nat) (xs : List Int) (lo hi t : Int) (w : World) (ha : Rds w w.heap.size .i64 A xs) (hx : xs.length ≤ maxLen) (h1 : lo ≤ xs.length) (h2 : xs.length ≤ hi) (ht : wof xs = some t) :
    Calls Tryd.prog 29 #[.slice A xs.length c, .int .i64 lo, .int .i64 hi] w fun e w' => e = .returned (.tuple #[.int .u32 t, .bool true]) ∧ w = w' := by
  obtain ⟨⟨t0, t1⟩, _⟩ := wof_is ht
  have hx' := hx
  unfold maxLen at hx'
  have hc : IntKind.u32.wrap t = t := wrap_u32_in t t0 (by omega)
  have HS := Lib.hid (iWordOf_calls A c xs w ha hx)
  rw [ht] at HS
  clear ht ha
  go_enter Tryd.func29, Tryd.ntmps29
  go_wp2_with (go_at_call 41; refine HS.out.mono ?_; rintro e w' ⟨he, rfl⟩; simp only [resW] at he; subst he)
  go_ret2
  exact ⟨rfl, rfl⟩
theorem placesFrom_no (A : Option Addr) (c : Nat) (xs : List Int) (lo hi : Int) (w : World) (ha : Rds w w.heap.size .i64 A xs) (hx : xs.length ≤ maxLen) (h : (xs.length : Int) < lo ∨ hi < xs.length ∨ wof xs = none) :
    Calls Tryd.prog 29 #[.slice A xs.length c, .int .i64 lo, .int .i64 hi] w fun e w' => e = .returned (.tuple #[.int .u32 0, .bool false]) ∧ w = w' := by
  have hx' := hx
  unfold maxLen at hx'
  by_cases h1 : (xs.length : Int) < lo
  · clear h
    go_enter Tryd.func29, Tryd.ntmps29
    go_wp2_with fail
    go_ret2
    exact ⟨rfl, rfl⟩
  by_cases h2 : hi < (xs.length : Int)
  · clear h
    go_enter Tryd.func29, Tryd.ntmps29
    go_wp2_with fail
    go_ret2
    exact ⟨rfl, rfl⟩
  have h3 : wof xs = none := by
    rcases h with h | h | h
    · exact absurd h h1
    · exact absurd h h2
    · exact h
  have HS := Lib.hid (iWordOf_calls A c xs w ha hx)
  rw [h3] at HS
  clear h h3 ha
  go_enter Tryd.func29, Tryd.ntmps29
  go_wp2_with (go_at_call 41; refine HS.out.mono ?_; rintro e w' ⟨he, rfl⟩; simp only [resW] at he; subst he)
  go_ret2
  exact ⟨rfl, rfl⟩
end Go.Proofs.YtnfpdonlknkccabDoor
