/- Ovals: the program's list, sorted. -/
import Derived.Test.YtnfpdonlknkccabDoorC45
import Derived.Test.YtnfpdonlknkccabDoorC91
import Derived.OwnWalkIn
namespace Go.Proofs.YtnfpdonlknkccabDoor
open Go.RowKit Go.Shelf
attribute [local go_sem] Oper.semAt_some
set_option linter.unusedVariables false
attribute [local irreducible] octS cN octF syn

theorem oC_split (B T : Nat) (h : T &&& B = T) (x : Nat) : oC (T : Int) (lessI (B : Int) (T : Int)) (x : Int) = (andI (x : Int) (B : Int) == (T : Int)) := by
  unfold oC lessI
  simp only [Int.toNat_natCast]
  rw [andI_nat, andI_nat, andI_nat, Bool.eq_iff_iff]
  simp only [Bool.and_eq_true, beq_iff_eq]
  constructor
  · rintro ⟨h1, h2⟩
    have h1' : x &&& T = T := by omega
    have h2' : x &&& (B ^^^ (B &&& T)) = 0 := by omega
    have : x &&& B = T := Nat.eq_of_testBit_eq fun q => by
      have a := congrArg (fun n => n.testBit q) h1'
      have b := congrArg (fun n => n.testBit q) h2'
      have c := congrArg (fun n => n.testBit q) h
      simp only [Nat.testBit_and, Nat.testBit_xor, Nat.zero_testBit] at a b c ⊢
      revert a b c
      cases x.testBit q <;> cases T.testBit q <;> cases B.testBit q <;> simp
    omega
  · intro h0
    have h0' : x &&& B = T := by omega
    constructor
    · have : x &&& T = T := Nat.eq_of_testBit_eq fun q => by
        have a := congrArg (fun n => n.testBit q) h0'
        simp only [Nat.testBit_and] at a ⊢
        revert a
        cases x.testBit q <;> cases T.testBit q <;> cases B.testBit q <;> simp
      omega
    · have : x &&& (B ^^^ (B &&& T)) = 0 := Nat.eq_of_testBit_eq fun q => by
        have a := congrArg (fun n => n.testBit q) h0'
        simp only [Nat.testBit_and, Nat.testBit_xor, Nat.zero_testBit] at a ⊢
        revert a
        cases x.testBit q <;> cases T.testBit q <;> cases B.testBit q <;> simp
      omega
theorem ovl_perm (B T : Nat) (h : T &&& B = T) (k : Nat) (hk : k = 4096) : ((octF k).filter (oC (T : Int) (lessI (B : Int) (T : Int)))).Perm (octS.filter fun x => andI x (B : Int) == (T : Int)) := by
  have e : octS.filter (fun x => andI x (B : Int) == (T : Int)) = octS.filter (oC (T : Int) (lessI (B : Int) (T : Int))) := by
    refine List.filter_congr fun x hx => ?_
    have hr := (oct_iff.1 hx).rng
    obtain ⟨X, rfl⟩ := Int.eq_ofNat_of_zero_le hr.1
    rw [oC_split B T h X]
  rw [e]
  exact (octF_perm k hk).filter _
theorem less_W {B T : Int} (hB : IsW B) : IsW (lessI B T) := by
  obtain ⟨X, rfl⟩ := Int.eq_ofNat_of_zero_le hB.1
  unfold lessI
  simp only [Int.toNat_natCast]
  have h2 := hB.2
  have h3 : X < 2 ^ 24 := by omega
  have : X ^^^ (X &&& T.toNat) < 2 ^ 24 := Nat.xor_lt_two_pow h3 (Nat.lt_of_le_of_lt Nat.and_le_left h3)
  exact ⟨by omega, by omega⟩
theorem xor_le24 {a b : Int} (ha : 0 ≤ a ∧ a ≤ 16777215) (hb : IsW b) : xorI a b ≤ 16777215 := by
  obtain ⟨A, rfl⟩ := Int.eq_ofNat_of_zero_le ha.1
  obtain ⟨B, rfl⟩ := Int.eq_ofNat_of_zero_le hb.1
  rw [xorI_nat]
  have h1 := ha.2
  have h2 := hb.2
  have : A ^^^ B < 2 ^ 24 := Nat.xor_lt_two_pow (by omega) (by omega)
  omega
theorem less_sub {x n : Int} (hx : 0 ≤ x) (hn : 0 ≤ n) (h : andI x n = n) : lessI x n = xorI x n := by
  obtain ⟨X, rfl⟩ := Int.eq_ofNat_of_zero_le hx
  obtain ⟨N, rfl⟩ := Int.eq_ofNat_of_zero_le hn
  rw [andI_nat] at h
  have h' : X &&& N = N := by omega
  unfold lessI xorI
  simp only [Int.toNat_natCast]
  rw [h']
/-- An append of one number, as the region meets it. -/
theorem push_runO (V : World) (B : Nat) (v : Value) (xs : List Int) (x : Int) (c : Nat) (ty : TypeId) (hown : Own V B v xs) (hlen : xs.length ≤ 1048576) (hB : B ≤ V.heap.size) :
    ∃ v' V', (Builtin.append_ #[22, 22] ty #[v, .slice (some ⟨V.heap.size, 0, none⟩) 1 c]).run Tryd.prog (World.drew (V.alloc (.cells #[.int .i64 x] 3))) = .ok v' V' ∧ Own V' B v' (xs ++ [x]) ∧ V.grownBy V' v.ownBlock := by
  obtain ⟨i0, hi, hz0, hz1, hz2⟩ := info_parts intRow
  obtain ⟨v', V', h1, h2, h3, _⟩ := run_append_own (P := Tryd.prog) (World.drew (V.alloc (.cells #[.int .i64 x] 3))) B 22 ty 3 i0 (.int .i64 0) 1 8 Tryd.underlying22 hi hz0 hz1 hz2 rfl (by decide) v xs.length (vals .i64 xs) (World.ownsRow.alloc hown _) ⟨V.heap.size, 0, none⟩ 1 c [.int .i64 x] rfl
    (by
      intro j u hj
      match j, hj with
      | 0, hj => simp at hj; subst hj; exact cell_new V #[.int .i64 x] _ 0 _ rfl)
    (by intro u hu; simp at hu; subst hu; rfl) (by unfold maxLen; omega) (by omega) (by show B ≤ (V.alloc _).heap.size; simp; omega)
  have h3' : (V.alloc (.cells #[.int .i64 x] 3)).grownBy V' v.ownBlock := ⟨h3.os, h3.tape, h3.output, h3.size, h3.block⟩
  refine ⟨v', V', h1, ?_, grown_trans (World.grownBy_alloc V _ _) h3'⟩
  unfold Own
  rw [vals_append, show vals .i64 [x] = [Value.int .i64 x] from rfl, List.length_append]
  simpa using h2
theorem own_formO {A : World} {B : Nat} {v : Value} {xs : List Int} {x : Int} (h : Own A B v (xs ++ [x])) : ∃ g cap, v = .slice (some ⟨g, 0, none⟩) (xs.length + 1) cap := by
  have e : (xs ++ [x]).length = xs.length + 1 := by simp
  unfold Own at h
  rw [e] at h
  exact ownsRow_succ h
def myAppO (ats : Array TypeId) (ty : TypeId) (args : Array Value) : Sem Value := Builtin.append_ ats ty args
theorem myAppO_is (ats : Array TypeId) (ty : TypeId) (args : Array Value) : Builtin.append_ ats ty args = myAppO ats ty args := rfl
attribute [local go_sem ↓] myAppO_is
/-- The end of a round that has appended: the list's box at G. -/
theorem list_finG {w V W2 : World} {G B lw mid C : Nat} {v v' : Value} {xs ys : List Int} (h1 : V.heap[G]? = some (.cells #[v] 22 (0, 0))) (hwG : w.heap.size ≤ G) (ho : Own V B v xs) (hB : Below w.heap.size w V) (hg : V.grownBy W2 v.ownBlock) (o2 : Own W2 B v' ys)
    (hlw : G < lw) (hm : mid ≤ C) (hGB : G < B) (hCB : C ≤ B) (hBV : B ≤ V.heap.size) (D : Nat) (hD : G < D) :
    KeepsIn D C V (W2.setCell ⟨G, 0, none⟩ v') ∧ KpOf w.heap.size lw mid V (W2.setCell ⟨G, 0, none⟩ v') ∧ ListAt G B ys (W2.setCell ⟨G, 0, none⟩ v') ∧ Below w.heap.size w (W2.setCell ⟨G, 0, none⟩ v') ∧ (∀ q, q < B → q ≠ G → (W2.setCell ⟨G, 0, none⟩ v').heap[q]? = V.heap[q]?) := by
  have hv := own_blkL ho
  have hv' := own_blkL o2
  have b1 : Below w.heap.size V W2 := (Below.refl _ _).grown hg hB.size (fun k e => by have := hv k e; omega)
  have b2 : Below w.heap.size V (W2.setCell ⟨G, 0, none⟩ v') := b1.setCell hwG _
  have hbx : W2.heap[G]? = some (.cells #[v] 22 (0, 0)) := (hg.block G (Array.getElem?_eq_some_iff.1 h1).1 fun e => by have := hv _ e.symm; omega).trans h1
  have hk : ∀ q, q ≠ G → q < B → (W2.setCell ⟨G, 0, none⟩ v').heap[q]? = V.heap[q]? := fun q h2 h3 =>
    (Below.heap_setCell W2 ⟨G, 0, none⟩ v' q h2).trans (hg.block q (by omega) fun e => by have := hv _ e.symm; omega)
  refine ⟨⟨b2.size, fun q h2 h3 => hk q (by omega) (by omega)⟩, ⟨b2, ⟨b2.size, fun q h2 h3 => hk q (by omega) (by omega)⟩⟩, ⟨v', ?_, o2.set_far (fun e => by have := hv' _ e; simp at this; omega) _⟩, hB.trans b2, fun q h2 h3 => hk q h3 h2⟩
  have := heap_setCell_same W2 G 0 #[v] 22 v' hbx
  simpa using this
set_option maxRecDepth 100000 in
set_option maxHeartbeats 4000000 in
theorem ovals_in (B T : Nat) (hB : IsBase B) (hT0 : T &&& B = T) (hT2 : pop T = 2) (k : Nat) (hk : k = 4096) (w : World) (hT : Tab2 w) :
    CallsIn Fence.wide 6 Tryd.prog 31 #[.int .u32 (B : Int), .int .u32 (T : Int)] w fun e w' => ∃ v, e = .returned v ∧ Own w' w.heap.size v (ovl (B : Int) (T : Int)) ∧ Below w.heap.size w w' := by
  have wB : IsW (B : Int) := ⟨by omega, by have := hB.1; omega⟩
  have wT : IsW (T : Int) := by
    have h1 : T ≤ B := by rw [← hT0]; exact Nat.and_le_right
    have := hB.1
    exact ⟨by omega, by omega⟩
  have wR := less_W (T := (T : Int)) wB
  have HP := Lib.hid (ovl_perm B T hT0 k hk)
  refine callsIn_of_wp_marks Tryd.func31 rfl trivial ?_ rfl
  simp only [Tryd.ntmps31, List.size_toArray, List.length_cons, List.length_nil, Nat.reduceAdd, Nat.reduceSub, Array.replicate_succ, Array.replicate_zero, List.push_toArray, List.append_toArray, List.nil_append, List.cons_append]
  have HL := Lib.hid (fun W => word_less (B : Int) (T : Int) W wB.1 wB.2 wT.1 wT.2)
  have HOV := Lib.hid (show ∀ M : List Int, M.Perm ((octS.filter fun x => andI x (B : Int) == (T : Int)).map fun x => xorI x (T : Int)) → sortI M = ovl (B : Int) (T : Int) from fun M h => sortI_congr h)
  have HOVL := Lib.hid (show (ovl (B : Int) (T : Int)).length = 56 from ovl_len hB (show B &&& T = T by rw [Nat.and_comm]; exact hT0) hT2)
  generalize lessI (B : Int) (T : Int) = R at *
  generalize hov : ovl (B : Int) (T : Int) = OV at *
  clear hov
  generalize (B : Int) = b at *
  generalize (T : Int) = t at *
  have hmx : Tryd.prog.follows .mixedOrders = true := by kernel_rfl
  gi_wp2_with fail
  refine wpIn_mono (Q := fun e a W => match e with
    | .normal => a = { tmps := #[.int .u32 b, .int .u32 t, undef, .pointer (some ⟨w.heap.size, 0, none⟩), .slice none 0 0, .pointer (some ⟨w.heap.size + 1, 0, none⟩), undef, .int .u32 t, .int .u32 b, .int .u32 t, .int .u32 R, .func (.func 54) #[] #[.pointer (some ⟨w.heap.size + 1 + 1, 0, none⟩), .pointer (some ⟨w.heap.size + 1 + 1 + 1, 0, none⟩)], undef, undef, undef, undef, undef, undef, undef, undef, undef, undef, undef], defers := [] } ∧ W = owW t R (((w.alloc (.cells #[.int .u32 t] 34)).alloc (.cells #[.slice none 0 0] 22)).drew)
    | _ => False) ?_ ?_
  · gi_region_with_o (first
      | (refine ⟨trivial, ?_⟩; refine (callsIn_wide.2 (HL.out _)).mono ?_; rintro e w' ⟨rfl, rfl⟩)
      | (refine ⟨trivial, ?_⟩; refine (callsIn_wide.2 (octadsWith_calls _ _ _)).mono ?_; rintro e w' ⟨rfl, rfl⟩))
    all_goals exact ⟨rfl, rfl⟩
  intro e a W h
  cases e <;> (try exact h.elim)
  obtain ⟨ha, hW⟩ := h
  subst ha
  have hsz : (((w.alloc (.cells #[.int .u32 t] 34)).alloc (.cells #[.slice none 0 0] 22)).drew).heap.size = w.heap.size + 1 + 1 := by show ((w.alloc _).alloc _).heap.size = _; simp
  have hb2 : Below w.heap.size w (((w.alloc (.cells #[.int .u32 t] 34)).alloc (.cells #[.slice none 0 0] 22)).drew) := (((Below.refl _ w).alloc (Nat.le_refl _) _).alloc (by simp) _).drew
  have hX0 : (((w.alloc (.cells #[.int .u32 t] 34)).alloc (.cells #[.slice none 0 0] 22)).drew).heap[w.heap.size]? = some (.cells #[.int .u32 t] 34 (0, 0)) := (Blk.new w _ _).alloc _
  have hX1 : (((w.alloc (.cells #[.int .u32 t] 34)).alloc (.cells #[.slice none 0 0] 22)).drew).heap[w.heap.size + 1]? = some (.cells #[.slice none 0 0] 22 (0, 0)) := Blk.new1 w _ _ _
  generalize ((w.alloc (.cells #[.int .u32 t] 34)).alloc (.cells #[.slice none 0 0] 22)).drew = w2 at *
  have hT2 : Tab2 w2 := hT.below hb2 hT.lt
  have hs4 := owW_size t R w2
  have hcb := owW_below t R w2
  have hit := octs_itL t R wT wR k w.heap.size hk w2 (by omega) hT.lt hT2
  rw [hsz] at hit hs4
  have hX04 := (hcb.block w.heap.size (by omega)).trans hX0
  have hX14 := (hcb.block (w.heap.size + 1) (by omega)).trans hX1
  have hB4 : Below w.heap.size w (owW t R w2) := hb2.trans (hcb.mono hb2.size)
  subst hW
  clear hX0 hX1 hb2 hcb
  generalize owW t R w2 = w4 at *
  gi_wp2_with fail
  refine wp_range_it (gf := 54) (lb := #[.pointer (some ⟨w.heap.size + 1 + 1, 0, none⟩), .pointer (some ⟨w.heap.size + 1 + 1 + 1, 0, none⟩)]) rfl (enters_of Tryd.func54 (by kernel_rfl) rfl) hit (fun h k => KpOf.trans h k) (fun V j o hj hjl => KpOf.put V j o (by omega) (by omega) hjl) (Below.refl _ _) (fun _ => rfl)
    (fun (pre : List (Oc t R)) V => (ListAt (w.heap.size + 1) (w4.heap.size + 12) (pre.map fun x => xorI x.val t) V ∧ V.heap[w.heap.size]? = some (.cells #[.int .u32 t] 34 (0, 0))) ∧ Below w.heap.size w V)
    (fun _ _ _ => False)
    (((ListAt.own (fun (pre : List (Oc t R)) => pre.map fun x => xorI x.val t) (by omega)).and (ownFrom_at _ (by omega))).and (ownFrom_below (Nat.le_refl _) (by omega)))
    (fun _ _ _ _ _ hs _ _ => hs)
    ⟨⟨⟨_, hX14, Own.nil_ _ _⟩, hX04⟩, hB4⟩
    (fun x => { tmps := #[.int .u32 b, .int .u32 t, undef, .pointer (some ⟨w.heap.size, 0, none⟩), .slice none 0 0, .pointer (some ⟨w.heap.size + 1, 0, none⟩), .int .u32 x.val, .int .u32 t, .int .u32 b, .int .u32 t, .int .u32 R, .func (.func 54) #[] #[.pointer (some ⟨w.heap.size + 1 + 1, 0, none⟩), .pointer (some ⟨w.heap.size + 1 + 1 + 1, 0, none⟩)], .int .u32 x.val, undef, undef, undef, undef, undef, undef, undef, undef, undef, undef], defers := [] }) ?assign ?body ?done ?stop
  case assign =>
    intro l x V K hK
    unfold encO
    gi_wp2
    exact hK
  case body =>
    rintro l pre x V ⟨⟨⟨v, h1, ho⟩, h0⟩, hB⟩ hlen hsK
    have wx := x.property.1.rng
    have hsub : andI x.val t = t := by have := x.property.2; simp [oC] at this; exact this.1
    have hmp : ((pre ++ [x]).map fun x => xorI x.val t) = (pre.map fun x => xorI x.val t) ++ [xorI x.val t] := by simp
    have hln : (pre.map fun x => xorI x.val t).length ≤ 4096 := by rw [List.length_map]; omega
    have HLX := Lib.hid (fun W => word_less x.val t W wx.1 wx.2 wT.1 wT.2)
    rw [less_sub wx.1 wT.1 hsub] at HLX
    have hy := xorI_nonneg x.val t
    have hy2 := xor_le24 wx wT
    have hwx : IntKind.i64.wrap (xorI x.val t) = xorI x.val t := by rw [IntKind.wrap_i64]; omega
    have hc0 : V.cell? ⟨w.heap.size, 0, none⟩ = some (.int .u32 t) := Boxed.cell (t := 34) h0
    have hc1 : V.cell? ⟨w.heap.size + 1, 0, none⟩ = some v := Boxed.cell (t := 22) h1
    have hvs : w.heap.size + 1 < V.heap.size := Boxed.lt (t := 22) h1
    have hv := own_blkL ho
    have H1 := Lib.hid h1
    have H0 := Lib.hid h0
    have HO := Lib.hid ho
    have HB := Lib.hid hB
    have HMP := Lib.hid hmp
    have HV := Lib.hid hv
    clear h1 h0 ho hB hmp hit hB4 hX04 hX14 hv hsub
    generalize (pre.map fun x => xorI x.val t) = L at *
    generalize xorI x.val t = y at *
    generalize x.val = xv at *
    obtain ⟨A', c', rfl⟩ := HO.out.slice
    have hc4 : (V.alloc (.cells #[.int .i64 y] 3)).cell? ⟨w.heap.size + 1, 0, none⟩ = some (.slice A' L.length c') := (World.cell?_alloc_lt V _ ⟨w.heap.size + 1, 0, none⟩ hvs).trans hc1
    have hc5 : (World.drew (V.alloc (.cells #[.int .i64 y] 3))).cell? ⟨w.heap.size + 1, 0, none⟩ = _ := hc4
    obtain ⟨v', V', hp1, hp2, hp3⟩ := push_runO V (w4.heap.size + 12) (.slice A' L.length c') L y 1 22 HO.out (by omega) (by omega)
    obtain ⟨g', cap', rfl⟩ := own_formO hp2
    have hbx2 : V'.heap[w.heap.size + 1]? = some (.cells #[.slice A' L.length c'] 22 (0, 0)) := (hp3.block (w.heap.size + 1) hvs (fun e => by have := HV.out _ e.symm; omega)).trans H1.out
    have hf3 : V'.frozen? ⟨w.heap.size + 1, 0, none⟩ = false := Lib.frozen_of_heap hbx2 0
    have hc3 : V'.cell? ⟨w.heap.size + 1, 0, none⟩ = some (.slice A' L.length c') := Boxed.cell (t := 22) hbx2
    have HFIN := Lib.hid (list_finG (lw := w.heap.size + 1 + 1) (mid := w.heap.size + 1 + 1 + 2) (C := w4.heap.size + 2 + 10) (D := w4.heap.size) H1.out (by omega) HO.out HB.out hp3 hp2 (by omega) (by omega) (by omega) (by omega) (by omega) (by omega))
    change (myAppO #[22, 22] 22 #[.slice A' L.length c', .slice (some ⟨V.heap.size, 0, none⟩) 1 1]).run Tryd.prog _ = _ at hp1
    have HP1 := Lib.hid hp1
    clear hp1 hp2 hp3 hbx2
    have hd : 1 ≤ 6 - 1 - 1 := by omega
    gi_wp2_with fail
    gi_region_with_o (refine ⟨trivial, ?_⟩; refine (CallsIn.inRound l (callsIn_wide.2 (HLX.out _))).mono ?_; rintro e w' ⟨rfl, rfl⟩; have hp1 := HP1.out)
    all_goals gi_wp2
    all_goals
      have hfin := HFIN.out
      refine ⟨hfin.1, hfin.2.1, ⟨?_, (hfin.2.2.2.2 w.heap.size (by omega) (by omega)).trans H0.out⟩, hfin.2.2.2.1⟩
      rw [HMP.out]
      exact hfin.2.2.1
  case done =>
    rintro D ys V hD hS ⟨⟨⟨v, h1, ho⟩, h0⟩, hB⟩ hK
    have e1 : (ys.map fun x => xorI x.val t) = (ys.map fun x => x.val).map fun x => xorI x t := by rw [List.map_map]; rfl
    have hln : (ys.map fun x => xorI x.val t).length ≤ 4096 := by
      rw [e1, List.length_map, hS]
      have a1 := List.length_filter_le (oC t R) (octF k)
      have a2 := octF_len k
      omega
    have hms : (ys.map fun x => xorI x.val t).mergeSort (fun x y => decide (x ≤ y)) = OV := by
      have := HOV.out ((ys.map fun x => x.val).map fun x => xorI x t) (by rw [hS]; exact HP.out.map _)
      rw [← e1] at this
      exact this
    have hc1 : V.cell? ⟨w.heap.size + 1, 0, none⟩ = some v := Boxed.cell (t := 22) h1
    have hvs : w.heap.size + 1 < V.heap.size := Boxed.lt (t := 22) h1
    have hpos : 0 < (ys.map fun x => xorI x.val t).length := by
      have := congrArg List.length hms
      rw [List.length_mergeSort, HOVL.out] at this
      omega
    have HSORT := Lib.hid (sort_own2 V _ v _ ho hpos hln)
    rw [hms] at HSORT
    have hv := own_blkL ho
    have H1 := Lib.hid h1
    have HO := Lib.hid ho
    have HB := Lib.hid hB
    have HV := Lib.hid hv
    clear h1 ho hB hit hB4 hX04 hX14 hS hms hln hv e1 h0 hpos
    gi_wp2_with fail
    refine ⟨trivial, ?_⟩
    refine (callsIn_wide.2 HSORT.out).mono ?_
    rintro e W2 ⟨rfl, hown, hg⟩
    have hne : some D ≠ v.ownBlock := by
      intro e
      rcases HO.out.2 with ⟨h1, _⟩ | ⟨b, cap, cur, h1, h2, h3, _⟩
      · rw [h1] at e; cases e
      · rw [h1] at e; cases e; rw [h3] at hK; cases hK
    have hKW : W2.heap[D]? = some (.deferred (some [])) := (hg.block D (Array.getElem?_eq_some_iff.1 hK).1 hne).trans hK
    have hbx2 : W2.heap[w.heap.size + 1]? = some (.cells #[v] 22 (0, 0)) := (hg.block (w.heap.size + 1) hvs (fun e => by have := HV.out _ e.symm; omega)).trans H1.out
    have hc2 : W2.cell? ⟨w.heap.size + 1, 0, none⟩ = some v := Boxed.cell (t := 22) hbx2
    have hBW : Below w.heap.size w W2 := HB.out.trans ((Below.refl _ _).grown hg HB.out.size (fun k hk => by have := HV.out k hk; omega))
    have HOW := Lib.hid hown
    have HBW := Lib.hid hBW
    have HKW := Lib.hid hKW
    clear hown hg hne hKW hbx2 hBW
    gi_wp2_with fail
    refine ⟨by simp, .inl ⟨_, _, rfl, run_takeDeferred HKW.out, ?_⟩⟩
    refine ⟨_, results_tmp rfl _ _ _, _, rfl, ?_, HBW.out.trans (belowK_b (w := w) (Nat.le_refl _) W2 D _ _ (by omega) HKW.out rfl rfl)⟩
    exact (own_turnL (B' := 0) HOW.out (grownBy_putObj' W2 D _) (fun r e => by cases e; exact ⟨Nat.zero_le _, _, HKW.out, rfl⟩)).weak (by omega)
  case stop =>
    rintro D c pre V _ _ h _
    exact h.elim
end Go.Proofs.YtnfpdonlknkccabDoor
