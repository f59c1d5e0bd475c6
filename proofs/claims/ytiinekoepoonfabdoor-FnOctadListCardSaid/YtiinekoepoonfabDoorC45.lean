/- Octads through places, listed, of the program. -/
import Derived.Test.YtiinekoepoonfabDoorC40
import Derived.Test.YtiinekoepoonfabDoorC44
import Derived.OwnWalkIn
namespace Go.Proofs.YtiinekoepoonfabDoor
open Go.RowKit Go.Shelf
attribute [local go_sem] Oper.semAt_some
set_option linter.unusedVariables false
attribute [local irreducible] octS cN octF

theorem octs_itL (a b : Int) (wa : IsW a) (wb : IsW b) (k n₀ : Nat) (hk : k = 4096) (w : World) (hn : n₀ ≤ w.heap.size) (hg : tab2G < n₀) (hT : Tab2 w) :
    SeqIt Tryd.prog 74 #[.pointer (some ⟨w.heap.size, 0, none⟩), .pointer (some ⟨w.heap.size + 1, 0, none⟩)] (encO (a := a) (b := b)) 10 (KpOf n₀ w.heap.size (w.heap.size + 2)) (fun ys => ys.map (fun x => x.val) = (octF k).filter (oC a b)) (fun _ => True) 4096 (owW a b w) := by
  have hs := owW_size a b w
  have hc := owW_cells a b w
  have hb := owW_below a b w
  have hT2 := hT.below hb hT.lt
  generalize owW a b w = W at *
  exact octads_it a b wa wb k n₀ w.heap.size (w.heap.size + 2) w.heap.size (w.heap.size + 1) hk W (by omega) (by omega) (Nat.le_refl _) (by omega) (by omega) (by omega) (by omega) (by omega) hg hc.1 hc.2 hT2
theorem own_turnL {A C : World} {B B' : Nat} {row : Option Nat} {v : Value} {xs : List Int} (h : Own A B v xs) (hg : A.grownBy C row) (hr : ∀ r, row = some r → B' ≤ r ∧ ∃ o : Obj, A.heap[r]? = some o ∧ o.isCells = false) : Own C B v xs := by
  refine ⟨h.1, ?_⟩
  rcases h.2 with h1 | ⟨b, cap, cur, h1, h2, h3, h4⟩
  · exact .inl h1
  · refine .inr ⟨b, cap, cur, h1, h2, (hg.block b (Array.getElem?_eq_some_iff.1 h3).1 fun e => ?_).trans h3, h4⟩
    obtain ⟨_, o, ho, hc⟩ := hr b e.symm
    rw [h3] at ho
    cases ho
    cases hc
theorem own_blkL {A : World} {B : Nat} {v : Value} {xs : List Int} (h : Own A B v xs) : ∀ g, v.ownBlock = some g → B ≤ g := by
  intro g hg
  rcases h.2 with ⟨h1, _⟩ | ⟨b, cap, cur, h1, h2, h3, h4⟩
  · rw [h1] at hg; cases hg
  · rw [h1] at hg; cases hg; exact h2
/-- A box that holds a list of the call's own. -/
def ListAt (G B : Nat) (xs : List Int) (V : World) : Prop := ∃ v, V.heap[G]? = some (.cells #[v] 25 (0, 0)) ∧ Own V B v xs
theorem ListAt.own {β : Type} {G B B0 : Nat} (f : β → List Int) (hG : G < B0) : OwnFrom B0 (fun (s : β) V => ListAt G B (f s) V) :=
  fun s A C row ⟨v, h1, h2⟩ hg hr => ⟨v, (hg.block G (Array.getElem?_eq_some_iff.1 h1).1 fun e => by have := (hr G e.symm).1; omega).trans h1, own_turnL h2 hg hr⟩
theorem wpListIn_push {F : Fence} {n : Nat} {ops : Array Oper} {rest : List Oper} {o : Oper} {a : Act} {Q : Exit → Act → World → Prop} (hgd : o.guard = none) (s y : Operand)
    (ho : o.op = .call { callee := .builtin .append, args := #[s, y], argTypes := #[25, 25] })
    (w : World) (B : Nat) (v : Value) (xs : List Int) (x : Int) (c : Nat) (hs : a.eval s = v) (hy : a.eval y = .slice (some ⟨w.heap.size, 0, none⟩) 1 c)
    (hown : Own w B v xs) (hlen : xs.length ≤ 1048576) (hB : B ≤ w.heap.size)
    (h : ∀ v' w', Own w' B v' (xs ++ [x]) → Below B w w' → w.grownBy w' v.ownBlock → wpListIn F n Tryd.prog ops Q rest (a.put o.dst v') w') :
    wpListIn F n Tryd.prog ops Q (o :: rest) a (w.alloc (.cells #[.int .i64 x] 3)) := by
  obtain ⟨i0, hi, hz0, hz1, hz2⟩ := info_parts intRow
  refine wpListIn_append_own _ hgd s y 25 ho B 3 i0 (.int .i64 0) 1 8 Tryd.underlying25 hi hz0 hz1 hz2 rfl (by decide) v xs.length (vals .i64 xs) hs
    (World.ownsRow.alloc hown _) ⟨w.heap.size, 0, none⟩ 1 c [.int .i64 x] hy rfl ?_ ?_ (by unfold maxLen; omega) (by omega) (by simp; omega) ?_
  · intro j u hj
    match j, hj with
    | 0, hj => simp at hj; subst hj; simp [Addr.add]
  · intro u hu; simp at hu; subst hu; rfl
  · intro v' w' h1 h2 _
    have hg : w.grownBy w' v.ownBlock := grown_trans (World.grownBy_alloc w _ _) h2
    refine h v' w' ?_ ((Below.refl B w).grown hg hB (own_row_ge hown)) hg
    unfold Own
    rw [vals_append, show vals .i64 [x] = [Value.int .i64 x] from rfl]
    simpa using h1
/-- The end of a round that has appended. -/
theorem list_fin {w V W2 : World} {B lw mid C : Nat} {v v' : Value} {xs ys : List Int} (h1 : V.heap[w.heap.size]? = some (.cells #[v] 25 (0, 0))) (ho : Own V B v xs) (hB : Below w.heap.size w V) (hg : V.grownBy W2 v.ownBlock) (o2 : Own W2 B v' ys)
    (hlw : w.heap.size < lw) (hm : mid ≤ C) (hGB : w.heap.size < B) (hCB : C ≤ B) (hBV : B ≤ V.heap.size) (D : Nat) (hD : w.heap.size < D) :
    KeepsIn D C V (W2.setCell ⟨w.heap.size, 0, none⟩ v') ∧ KpOf w.heap.size lw mid V (W2.setCell ⟨w.heap.size, 0, none⟩ v') ∧ ListAt w.heap.size B ys (W2.setCell ⟨w.heap.size, 0, none⟩ v') ∧ Below w.heap.size w (W2.setCell ⟨w.heap.size, 0, none⟩ v') := by
  have hv := own_blkL ho
  have hv' := own_blkL o2
  have b1 : Below w.heap.size V W2 := (Below.refl _ _).grown hg hB.size (fun k e => by have := hv k e; omega)
  have b2 : Below w.heap.size V (W2.setCell ⟨w.heap.size, 0, none⟩ v') := b1.setCell (Nat.le_refl _) _
  have hbx : W2.heap[w.heap.size]? = some (.cells #[v] 25 (0, 0)) := (hg.block w.heap.size (Array.getElem?_eq_some_iff.1 h1).1 fun e => by have := hv _ e.symm; omega).trans h1
  have hk : ∀ q, q ≠ w.heap.size → q < B → (W2.setCell ⟨w.heap.size, 0, none⟩ v').heap[q]? = V.heap[q]? := fun q h2 h3 =>
    (Below.heap_setCell W2 ⟨w.heap.size, 0, none⟩ v' q h2).trans (hg.block q (by omega) fun e => by have := hv _ e.symm; omega)
  refine ⟨⟨b2.size, fun q h2 h3 => hk q (by omega) (by omega)⟩, ⟨b2, ⟨b2.size, fun q h2 h3 => hk q (by omega) (by omega)⟩⟩, ⟨v', ?_, o2.set_far (fun e => by have := hv' _ e; simp at this; omega) _⟩, hB.trans b2⟩
  have := heap_setCell_same W2 w.heap.size 0 #[v] 25 v' hbx
  simpa using this
theorem oWith_sorted (t : Int) (k : Nat) (hk : k = 4096) : ((octF k).filter (oC t 0)).mergeSort (fun x y => decide (x ≤ y)) = oWith t := by
  have hp : ((octF k).filter (oC t 0)).Perm (oWith t) := by
    have e : oWith t = octS.filter (oC t 0) := by
      unfold oWith
      refine List.filter_congr fun x _ => ?_
      simp [oC, andI]
    rw [e]
    exact (octF_perm k hk).filter _
  have hq := (List.mergeSort_perm ((octF k).filter (oC t 0)) (fun x y => decide (x ≤ y))).trans hp
  have hn := hq.nodup_iff.2 (oWith_asc t).nodup
  refine asc_ext _ _ ?_ (oWith_asc t) fun x => hq.mem_iff
  unfold Asc
  exact ((ms_pair ((octF k).filter (oC t 0))).and hn).imp fun {a b} h => by omega
theorem placesFrom_yes (A : Option Addr) (c : Nat) (xs : List Int) (lo hi t : Int) (w : World) (ha : Rds w w.heap.size .i64 A xs) (hx : xs.length ≤ maxLen) (h1 : lo ≤ xs.length) (h2 : xs.length ≤ hi) (ht : wof xs = some t) :
    Calls Tryd.prog 43 #[.slice A xs.length c, .int .i64 lo, .int .i64 hi] w fun e w' => e = .returned (.tuple #[.int .u32 t, .bool true]) ∧ w = w' := by
  obtain ⟨⟨t0, t1⟩, _⟩ := wof_is ht
  have hx' := hx
  unfold maxLen at hx'
  have hc : IntKind.u32.wrap t = t := wrap_u32_in t t0 (by omega)
  have HS := Lib.hid (iWordOf_calls A c xs w ha hx)
  rw [ht] at HS
  clear ht ha
  go_enter Tryd.func43, Tryd.ntmps43
  go_wp2_with (go_at_call 17; refine HS.out.mono ?_; rintro e w' ⟨he, rfl⟩; simp only [resW] at he; subst he)
  go_ret2
  exact ⟨rfl, rfl⟩
theorem placesFrom_no (A : Option Addr) (c : Nat) (xs : List Int) (lo hi : Int) (w : World) (ha : Rds w w.heap.size .i64 A xs) (hx : xs.length ≤ maxLen) (h : (xs.length : Int) < lo ∨ hi < xs.length ∨ wof xs = none) :
    Calls Tryd.prog 43 #[.slice A xs.length c, .int .i64 lo, .int .i64 hi] w fun e w' => e = .returned (.tuple #[.int .u32 0, .bool false]) ∧ w = w' := by
  have hx' := hx
  unfold maxLen at hx'
  by_cases h1 : (xs.length : Int) < lo
  · clear h
    go_enter Tryd.func43, Tryd.ntmps43
    go_wp2_with fail
    go_ret2
    exact ⟨rfl, rfl⟩
  by_cases h2 : hi < (xs.length : Int)
  · clear h
    go_enter Tryd.func43, Tryd.ntmps43
    go_wp2_with fail
    go_ret2
    exact ⟨rfl, rfl⟩
  have h3 : wof xs = none := by
    rcases h with h | h | h
    · exact absurd h h1
    · exact absurd h h2
    · exact h
  have HS := Lib.hid (iWordOf_calls A c xs w ha hx)
  rw [h3] at HS
  clear h h3 ha
  go_enter Tryd.func43, Tryd.ntmps43
  go_wp2_with (go_at_call 17; refine HS.out.mono ?_; rintro e w' ⟨he, rfl⟩; simp only [resW] at he; subst he)
  go_ret2
  exact ⟨rfl, rfl⟩
set_option maxRecDepth 100000 in
set_option maxHeartbeats 600000 in
theorem iOctadList_in (A : Option Addr) (c : Nat) (xs : List Int) (t : Int) (w : World) (ha : Rds w w.heap.size .i64 A xs) (hx : xs.length ≤ maxLen) (h1 : 3 ≤ xs.length) (h2 : xs.length ≤ 8) (ht : wof xs = some t) (k : Nat) (hk : k = 4096) (hT : Tab2 w) :
    CallsIn Fence.wide 6 Tryd.prog 21 #[.slice A xs.length c] w fun e w' => ∃ v, e = .returned (.tuple #[v, .bool true]) ∧ Own w' w.heap.size v (oWith t) ∧ Below w.heap.size w w' := by
  obtain ⟨wt1, _⟩ := wof_is ht
  have HP := Lib.hid (placesFrom_yes A c xs 3 8 t w ha hx (by omega) (by omega) ht)
  have w0' : IsW 0 := ⟨by omega, by omega⟩
  clear ht ha hx h1 h2
  generalize xs.length = n at *
  refine callsIn_of_wp_marks Tryd.func21 rfl trivial ?_ rfl
  simp only [Tryd.ntmps21, List.size_toArray, List.length_cons, List.length_nil, Nat.reduceAdd, Nat.reduceSub, Array.replicate_succ, Array.replicate_zero, List.push_toArray, List.append_toArray, List.nil_append, List.cons_append]
  gi_wp2_with fail
  refine ⟨trivial, ?_⟩
  refine (callsIn_wide.2 HP.out).mono ?_
  rintro e w' ⟨rfl, rfl⟩
  gi_wp2_with fail
  refine ⟨trivial, ?_⟩
  refine (callsIn_wide.2 (octadsWith_calls _ _ _)).mono ?_
  rintro e w' ⟨rfl, rfl⟩
  gi_wp2_with fail
  have hsz : (w.alloc (.cells #[.slice none 0 0] 25)).heap.size = w.heap.size + 1 := by simp
  have hb2 : Below w.heap.size w (w.alloc (.cells #[.slice none 0 0] 25)) := (Below.refl _ w).alloc (Nat.le_refl _) _
  have hX : (w.alloc (.cells #[.slice none 0 0] 25)).heap[w.heap.size]? = some (.cells #[.slice none 0 0] 25 (0, 0)) := World.alloc_heap_new _ _
  generalize w.alloc (.cells #[.slice none 0 0] 25) = w2 at *
  have hT2 : Tab2 w2 := hT.below hb2 hT.lt
  have hs4 := owW_size t 0 w2
  have hcb := owW_below t 0 w2
  have hit := octs_itL t 0 wt1 w0' k w.heap.size hk w2 (by omega) hT.lt hT2
  rw [hsz] at hit hs4
  have hX4 := (hcb.block w.heap.size (by omega)).trans hX
  have hB4 : Below w.heap.size w (owW t 0 w2) := hb2.trans (hcb.mono hb2.size)
  clear hX hb2 hcb
  generalize owW t 0 w2 = w4 at *
  refine wp_range_it (gf := 74) (lb := #[.pointer (some ⟨w.heap.size + 1, 0, none⟩), .pointer (some ⟨w.heap.size + 1 + 1, 0, none⟩)]) rfl (enters_of Tryd.func74 (by kernel_rfl) rfl) hit (fun h k => KpOf.trans h k) (fun V j o hj hjl => KpOf.put V j o (by omega) (by omega) hjl) (Below.refl _ _) (fun _ => rfl)
    (fun (pre : List (Oc t 0)) V => ListAt w.heap.size (w4.heap.size + 12) (pre.map fun x => x.val) V ∧ Below w.heap.size w V)
    (fun _ _ _ => False)
    ((ListAt.own (fun (pre : List (Oc t 0)) => pre.map fun x => x.val) (by omega)).and (ownFrom_below (Nat.le_refl _) (by omega)))
    (fun _ _ _ _ _ hs _ _ => hs)
    ⟨⟨_, hX4, Own.nil_ _ _⟩, hB4⟩
    (fun x => { tmps := #[.slice A n c, undef, .slice none 0 0, .bool false, .int .u32 t, .bool true, .pointer (some ⟨w.heap.size, 0, none⟩), .int .u32 x.val, .tuple #[.int .u32 t, .bool true], .slice A n c, .tuple #[.int .u32 t, .bool true], .int .u32 t, .bool true, .bool true, .bool false, .int .u32 t, .func (.func 74) #[] #[.pointer (some ⟨w.heap.size + 1, 0, none⟩), .pointer (some ⟨w.heap.size + 1 + 1, 0, none⟩)], .int .u32 x.val, undef, undef, undef, undef, undef, undef, undef, undef], defers := [] }) ?assign ?body ?done ?stop
  case assign =>
    intro l x V K hK
    unfold encO
    gi_wp2
    exact hK
  case body =>
    rintro l pre x V ⟨⟨v, h1, ho⟩, hB⟩ hlen hsK
    have wx := x.property.1.rng
    have hwx : IntKind.i64.wrap x.val = x.val := by rw [IntKind.wrap_i64]; omega
    have hmp : ((pre ++ [x]).map fun x => x.val) = (pre.map fun x => x.val) ++ [x.val] := by simp
    have hln : (pre.map fun x => x.val).length ≤ 4096 := by rw [List.length_map]; omega
    have hc1 : V.cell? ⟨w.heap.size, 0, none⟩ = some v := Boxed.cell (t := 25) h1
    have hvs : w.heap.size < V.heap.size := Boxed.lt (t := 25) h1
    have hv := own_blkL ho
    have H1 := Lib.hid h1
    have HO := Lib.hid ho
    have HB := Lib.hid hB
    have HMP := Lib.hid hmp
    have HV := Lib.hid hv
    clear h1 ho hB hmp hit hB4 hX4 hv
    generalize (pre.map fun x => x.val) = L at *
    generalize x.val = xv at *
    obtain ⟨A', c', rfl⟩ := HO.out.slice
    gi_wp2_with (gi_at_builtin; refine wpListIn_push rfl _ _ rfl V (w4.heap.size + 12) _ _ _ _ rfl rfl (by exact HO.out) (by omega) (by omega) ?_; intro v2 w3 ho2 hb2 hg2; obtain ⟨A2, c2, rfl⟩ := ho2.slice; have hbx2 : w3.heap[w.heap.size]? = some (.cells #[.slice A' L.length c'] 25 (0, 0)) := (hg2.block w.heap.size hvs (fun e => by have := HV.out _ e.symm; omega)).trans H1.out; have hfz := Lib.frozen_of_heap hbx2 0; have hcx2 : w3.cell? ⟨w.heap.size, 0, none⟩ = some (.slice A' L.length c') := Boxed.cell (t := 25) hbx2; have HO2 := Lib.hid ho2; have HG2 := Lib.hid hg2; clear ho2 hb2 hg2 hbx2)
    have hfin := list_fin (lw := w.heap.size + 1) (mid := w.heap.size + 1 + 2) (C := w4.heap.size + 2 + 10) (D := w4.heap.size) H1.out HO.out HB.out HG2.out HO2.out (by omega) (by omega) (by omega) (by omega) (by omega) (by omega)
    have hl2 : (L ++ [xv]).length = L.length + 1 := by simp
    rw [hl2] at hfin
    refine ⟨hfin.1, hfin.2.1, ?_, hfin.2.2.2⟩
    rw [HMP.out]
    exact hfin.2.2.1
  case done =>
    rintro D ys V hD hS ⟨⟨v, h1, ho⟩, hB⟩ hK
    have hmx : Tryd.prog.follows .mixedOrders = true := by kernel_rfl
    have hln : (ys.map fun x => x.val).length ≤ 4096 := by
      rw [hS]
      have a1 := List.length_filter_le (oC t 0) (octF k)
      have a2 := octF_len k
      omega
    have hms : (ys.map fun x => x.val).mergeSort (fun x y => decide (x ≤ y)) = oWith t := by rw [hS]; exact oWith_sorted t k hk
    have hc1 : V.cell? ⟨w.heap.size, 0, none⟩ = some v := Boxed.cell (t := 25) h1
    have hvs : w.heap.size < V.heap.size := Boxed.lt (t := 25) h1
    have HSORT := Lib.hid (sort_any V _ v _ ho hln)
    rw [hms] at HSORT
    have hv := own_blkL ho
    have H1 := Lib.hid h1
    have HO := Lib.hid ho
    have HB := Lib.hid hB
    have HV := Lib.hid hv
    clear h1 ho hB hit hB4 hX4 hS hms hln hv
    gi_wp2_with fail
    refine ⟨trivial, ?_⟩
    refine (callsIn_wide.2 HSORT.out).mono ?_
    rintro e W2 ⟨rfl, hown, hg⟩
    have hne : some D ≠ v.ownBlock := by
      intro e
      rcases HO.out.2 with ⟨h1, _⟩ | ⟨b, cap, cur, h1, h2, h3, _⟩
      · rw [h1] at e; cases e
      · rw [h1] at e; cases e; rw [h3] at hK; cases hK
    have hKW : W2.heap[D]? = some (.deferred (some [])) := (hg.block D (Array.getElem?_eq_some_iff.1 hK).1 hne).trans hK
    have hbx2 : W2.heap[w.heap.size]? = some (.cells #[v] 25 (0, 0)) := (hg.block w.heap.size hvs (fun e => by have := HV.out _ e.symm; omega)).trans H1.out
    have hc2 : W2.cell? ⟨w.heap.size, 0, none⟩ = some v := Boxed.cell (t := 25) hbx2
    have hBW : Below w.heap.size w W2 := HB.out.trans ((Below.refl _ _).grown hg HB.out.size (fun k hk => by have := HV.out k hk; omega))
    have HOW := Lib.hid hown
    have HBW := Lib.hid hBW
    have HKW := Lib.hid hKW
    clear hown hg hne hKW hbx2 hBW
    gi_wp2_with fail
    refine ⟨by simp, .inl ⟨_, _, rfl, run_takeDeferred HKW.out, ?_⟩⟩
    refine ⟨_, results_tmp2 rfl _ _ _, _, rfl, ?_, HBW.out.trans (belowK_b (w := w) (Nat.le_refl _) W2 D _ _ (by omega) HKW.out rfl rfl)⟩
    exact (own_turnL (B' := 0) HOW.out (grownBy_putObj' W2 D _) (fun r e => by cases e; exact ⟨Nat.zero_le _, _, HKW.out, rfl⟩)).weak (by omega)
  case stop =>
    rintro D c pre V _ _ h _
    exact h.elim
theorem iOctadList_calls (A : Option Addr) (c : Nat) (xs : List Int) (w : World) (ha : Rds w w.heap.size .i64 A xs) (hx : xs.length ≤ maxLen) (hT : Tab2 w) :
    Calls Tryd.prog 21 #[.slice A xs.length c] w (GotL w (oList xs).1 (oList xs).2) := by
  by_cases hl : 3 ≤ xs.length ∧ xs.length ≤ 8
  · rcases hf : wof xs with _ | t
    · rw [show oList xs = ([], false) by simp [oList, hf]]
      have HP := Lib.hid (placesFrom_no A c xs 3 8 w ha hx (.inr (.inr hf)))
      clear ha hx hf hl
      go_enter Tryd.func21, Tryd.ntmps21
      go_wp2_with fail
      refine HP.out.mono ?_
      rintro e w' ⟨rfl, rfl⟩
      go_wp2_with fail
      go_ret2
      exact ⟨_, rfl, Own.nil_ _ _, Below.refl _ _⟩
    · rw [show oList xs = (oWith t, true) by simp [oList, hf, hl]]
      obtain ⟨k, hk⟩ : ∃ k, k = 4096 := ⟨_, rfl⟩
      exact callsIn_wide.1 (iOctadList_in A c xs t w ha hx hl.1 hl.2 hf k hk hT)
  · have ho : oList xs = ([], false) := by
      unfold oList
      rcases wof xs with _ | t
      · rfl
      · simp only [hl, if_false]
    rw [ho]
    have HP := Lib.hid (placesFrom_no A c xs 3 8 w ha hx (by omega))
    clear ha hx hl ho
    go_enter Tryd.func21, Tryd.ntmps21
    go_wp2_with fail
    refine HP.out.mono ?_
    rintro e w' ⟨rfl, rfl⟩
    go_wp2_with fail
    go_ret2
    exact ⟨_, rfl, Own.nil_ _ _, Below.refl _ _⟩
end Go.Proofs.YtiinekoepoonfabDoor
