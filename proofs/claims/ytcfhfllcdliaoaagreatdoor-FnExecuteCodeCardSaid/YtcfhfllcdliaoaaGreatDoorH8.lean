import Derived.Test.YtcfhfllcdliaoaaGreatDoorQ7
import Derived.Test.YtcfhfllcdliaoaaGreatDoorM23
import Derived.Test.YtcfhfllcdliaoaaGreatDoorH7
import Derived.Test.YtcfhfllcdliaoaaGreatDoorShelf
import Derived.Sort.LotA
import Derived.Test.YtcfhfllcdliaoaaGreatDoorM11
import Derived.Test.YtcfhfllcdliaoaaGreatDoorH6
/- Sextets of the model. -/
namespace Go.Proofs.YtcfhfllcdliaoaaGreatDoor
open Go.RowKit
set_option linter.unusedVariables false
attribute [local irreducible] octS cN octF syn

def sxA (a : Int) : List Int × Bool := if tetB a then (sxOf a, true) else ([], false)
def tab36 (a b : List Int) : List Int := (List.range 36).map fun (j : Nat) => tabE a b (j / 6) (j % 6)
def tabA (a b : List Int) : List Int × Bool := if sxB a && sxB b then (tab36 a b, true) else ([], false)
def sumA (a b : Int) : List Int × Bool := if tetB a && tetB b && decide (wt (andI a b) = 2) then (sxOf (xorI a b), true) else ([], false)
theorem sx_sum {a b : Int} (ha : Tet a) (hb : Tet b) (h2 : wt (andI a b) = 2) : Tet (xorI a b) := by
  have := wt_xor_i ha.1 hb.1
  have h4 := ha.2.2
  have h5 := hb.2.2
  exact ⟨xorI_nonneg _ _, xorI_le _ _ ha.2.1 hb.2.1, by omega⟩
theorem own1 (w : World) (a : Int) : Own (w.alloc (.cells #[.int .i64 a] 3)) w.heap.size (.slice (some ⟨w.heap.size, 0, none⟩) 1 1) [a] :=
  ⟨rfl, .inr ⟨w.heap.size, 1, #[.int .i64 a], rfl, Nat.le_refl _, heap_alloc_new w _, Nat.le_refl _, by unfold maxLen; omega, rfl, rfl⟩⟩
/-- The tetrads gathered so far. -/
def sxTo (a : Int) (k : Nat) : List Int := a :: ((oWith a).take k).map fun x => xorI x a
theorem sxTo_succ {a : Int} (k : Nat) (hk : k < (oWith a).length) : sxTo a (k + 1) = sxTo a k ++ [xorI ((oWith a).getD k 0) a] := by
  unfold sxTo
  rw [tk_succ _ k hk, List.map_append]
  rfl
theorem sxTo_all {a : Int} (ha : Tet a) : sxTo a 5 = ofSx a := by
  unfold sxTo ofSx
  rw [List.take_of_length_le (by rw [oWith_tet ha]; exact Nat.le_refl _)]
theorem sxTo_len {a : Int} (k : Nat) : (sxTo a k).length ≤ k + 1 := by
  unfold sxTo
  have := List.length_take_le k (oWith a)
  simp only [List.length_cons, List.length_map]
  omega
theorem oWith_at {a : Int} (k : Nat) (hk : k < (oWith a).length) : 0 ≤ (oWith a).getD k 0 ∧ (oWith a).getD k 0 ≤ 16777215 := by
  rw [← getD_at _ k hk]
  exact (oWith_mem.1 (List.getElem_mem _)).1.rng
set_option maxRecDepth 100000 in
set_option maxHeartbeats 4000000 in
theorem sSextetOf_calls (a : Int) (w : World) :
    Calls Tryz.prog 101 #[.int .i64 a] w (GotL w (sxA a).1 (sxA a).2) := by
  have HE := Lib.hid (own_empty w w.heap.size (Nat.le_refl _))
  rcases ha : wordB a with _ | _
  · have hn := (wordB_no a).1 ha
    rw [show sxA a = ([], false) by simp [sxA, tetB, ha]]
    clear ha
    go_enter Tryz.func101, Tryz.ntmps101
    go_wp2_with (go_at_call 42; refine (sWordValid_no a _ hn).mono ?_; rintro e w' ⟨rfl, rfl⟩)
    go_ret2
    exact ⟨_, rfl, HE.out, (Below.refl _ _).alloc (Nat.le_refl _) _⟩
  have wa := (wordB_iff a).1 ha
  by_cases h4 : wt a = 4
  · have hT : Tet a := ⟨wa.1, wa.2, h4⟩
    rw [show sxA a = (sxOf a, true) by simp [sxA, (tetB_iff a).2 hT]]
    have H4 := Lib.hid h4
    have HO := Lib.hid (own1 w a)
    have HL := Lib.hid (oWith_tet hT)
    have HALL := Lib.hid (sxTo_all hT)
    have HSX := Lib.hid (fun M h1 h2 => sortI_eq (L := ofSx a) (M := M) h1 h2)
    have HSL := Lib.hid (ofSx_len hT)
    have HSO := Lib.hid (show sortI (ofSx a) = sxOf a from rfl)
    clear h4 ha hT
    go_enter Tryz.func101, Tryz.ntmps101
    go_wp2_with (first
      | (go_at_call 42; refine (sWordValid_ok a _ wa.1 wa.2).mono ?_; rintro e w' ⟨rfl, rfl⟩)
      | (go_at_call 71; refine (l1Weight_calls a _).mono ?_; rintro e w' ⟨he, rfl⟩; rw [H4.out] at he; subst he))
    refine (l4With_calls a _ wa).mono ?_
    rintro e w1 ⟨v1, rfl, o1, b1⟩
    obtain ⟨A, c, rfl⟩ := o1.slice
    have hs1 : w.heap.size < w1.heap.size := by have := b1.size; simp at this; omega
    have HB := Lib.hid (((Below.refl w.heap.size w).alloc (Nat.le_refl _) (.cells #[.int .i64 a] 3)).trans (b1.mono (by simp)))
    have HO1 := Lib.hid (HO.out.below b1)
    have HR := Lib.hid o1.rds
    have HA := Lib.hid (show ∀ ad, A = some ad → w.heap.size < ad.block from fun ad h => by have := own_lo' o1 ad h; simp at this; omega)
    have HAU := Lib.hid (show ∀ ad, A = some ad → ad.block < w1.heap.size from fun ad h => by
      obtain ⟨b, o, e, hb, _⟩ := o1.rds.at_ (j := 0) (by rw [HL.out]; decide)
      rw [e] at h; cases h; exact hb)
    clear b1 o1 HO
    go_wp2_with fail
    go_loopw [4, 6] (fun v i wr => ∃ k : Nat, k ≤ 5 ∧ i = .int .i64 k ∧ Hid (Own wr w.heap.size v (sxTo a k)) ∧ Hid (Rds wr w1.heap.size .i64 A (oWith a)) ∧ Hid (∀ j, v.ownBlock = some j → j = w.heap.size ∨ w1.heap.size ≤ j) ∧ Hid (Below w.heap.size w wr) ∧ w1.heap.size ≤ wr.heap.size) (fun _ i _ => 5 - (intOf i).toNat)
    case atStart => exact ⟨0, by omega, rfl, HO1, HR, Lib.hid (fun j h => by simp [Value.ownBlock] at h; omega), HB, Nat.le_refl _⟩
    case round =>
      obtain ⟨k, hk, rfl, ho, hr, hj, hb, hz⟩ := hrel
      have hln : ((oWith a).length : Int) = 5 := by rw [HL.out]; rfl
      by_cases hlt : k < 5
      · have HS := Lib.hid (sxTo_succ (a := a) k (by rw [HL.out]; exact hlt))
        obtain ⟨b, o, rfl, hb1, hc⟩ := hr.out.at_ (j := k) (by rw [HL.out]; exact hlt)
        have hx := oWith_at (a := a) k (by rw [HL.out]; exact hlt)
        have hl := sxTo_len (a := a) k
        have hq1 : (0 : Int) ≤ (k : Int) := by omega
        have hq2 : (k : Int) < 5 := by omega
        generalize (oWith a).getD k 0 = x at *
        have hxx : bits .xor .i64 x a = xorI x a := xor_i64 _ _ hx.1 (by omega) wa.1 (by have := wa.2; omega)
        generalize sxTo a k = L at *
        generalize (oWith a).length = n5 at *
        go_wp2_with (at_builtin; refine wpList_pushAt rfl _ _ rfl _ w.heap.size _ _ _ _ rfl rfl (by exact ho.out) (by omega) (by omega) ?_; intro v2 w2 ho2 hb2 hg2 hat)
        go_roundw
        case rel =>
          refine ⟨k + 1, by omega, by go_num, by rw [HS.out]; exact Lib.hid ho2, Lib.hid (hr.out.apart hg2 hz fun ad h e => ?_), Lib.hid (fun j h => ?_), Lib.hid (hb.out.trans hb2), Nat.le_trans hz hg2.size⟩
          · have h1 := HA.out ad h
            have h2 := HAU.out ad h
            rcases hj.out _ e with h3 | h3 <;> omega
          · rcases hat j h with h1 | h1
            · exact hj.out j h1
            · exact .inr (by omega)
        case measure => simp [intOf]; omega
      · obtain rfl : k = 5 := by omega
        rw [HALL.out] at ho
        obtain ⟨A2, c2, rfl⟩ := ho.out.slice
        obtain ⟨q1, q2⟩ := own_caps ho.out
        generalize (oWith a).length = n5 at *
        generalize ofSx a = L at *
        go_wp2_with fail
        refine (l4Sort_calls L.length L A2 c2 wr rfl (by have := HSL.out; omega) q1 q2 ho.out.rds).mono ?_
        rintro e w3 ⟨A', c', ys, rfl, p1, s1, l1, m1, r1, a1, b3, of⟩
        have hys := HSX.out ys p1 s1
        have ow := of (by have := HSL.out; omega)
        have hB3 := hb.out.trans (b3.mono hb.out.size)
        go_wp2_with fail
        go_ret2
        rw [hys, HSO.out] at ow
        exact ⟨_, rfl, ow.weak hb.out.size, hB3⟩
  · rw [show sxA a = ([], false) by simp [sxA, tetB, h4]]
    have h41 : (wt a == 4) = false := by simpa using h4
    clear h4 ha
    generalize hq : wt a = q at *
    have HQ := Lib.hid hq
    clear hq
    go_enter Tryz.func101, Tryz.ntmps101
    go_wp2_with (first
      | (go_at_call 42; refine (sWordValid_ok a _ wa.1 wa.2).mono ?_; rintro e w' ⟨rfl, rfl⟩)
      | (go_at_call 71; refine (l1Weight_calls a _).mono ?_; rintro e w' ⟨he, rfl⟩; rw [HQ.out] at he; subst he))
    go_ret2
    exact ⟨_, rfl, HE.out, (Below.refl _ _).alloc (Nat.le_refl _) _⟩
end Go.Proofs.YtcfhfllcdliaoaaGreatDoor
/- Sextets of the program: arrays of six words; compared, sorted, listed. -/
namespace Go.Proofs.YtcfhfllcdliaoaaGreatDoor
open Go.RowKit Go.Shelf
attribute [local go_sem] Oper.semAt_some
set_option linter.unusedVariables false
attribute [local irreducible] octS cN octF syn

/-- The values of an array of words. -/
def arrW (L : List Int) : Array Value := (L.map (Value.int .u32)).toArray
theorem six_of {L : List Int} (h : L.length = 6) : ∃ a b c d e f, L = [a, b, c, d, e, f] := by
  match L, h with
  | [a, b, c, d, e, f], _ => exact ⟨a, b, c, d, e, f, rfl⟩
theorem arrW_six (a b c d e f : Int) : arrW [a, b, c, d, e, f] = #[.int .u32 a, .int .u32 b, .int .u32 c, .int .u32 d, .int .u32 e, .int .u32 f] := rfl
section
open Go.Sort
theorem isNaNW_calls (a : Int) (w : World) : Calls Tryz.prog 239 #[.int .u32 a] w fun e w' => e = .returned (.bool false) ∧ w = w' := by
  go_enter Tryz.func239, Tryz.ntmps239
  go_wp2
  go_ret
  exact ⟨rfl, rfl⟩
theorem compareW_calls (a b : Int) (w : World) : Calls Tryz.prog 225 #[.int .u32 a, .int .u32 b] w fun e w' => e = .returned (.int .i64 (Lib.compareInt a b)) ∧ ∃ q, w' = w.drewN q := by
  unfold Lib.compareInt
  by_cases h1 : a < b
  · rw [if_pos h1]
    go_enter Tryz.func225, Tryz.ntmps225
    go_wp2_with (go_at_call 239; refine (isNaNW_calls _ _).mono ?_; rintro e w' ⟨rfl, rfl⟩)
    go_ret
    exact ⟨rfl, 0, rfl⟩
  · rw [if_neg h1]
    by_cases h2 : b < a
    · rw [if_pos h2]
      go_enter Tryz.func225, Tryz.ntmps225
      go_wp2_with (go_at_call 239; refine (isNaNW_calls _ _).mono ?_; rintro e w' ⟨rfl, rfl⟩)
      go_ret
      exact ⟨rfl, 0, rfl⟩
    · rw [if_neg h2]
      go_enter Tryz.func225, Tryz.ntmps225
      go_wp2_with (go_at_call 239; refine (isNaNW_calls _ _).mono ?_; rintro e w' ⟨rfl, rfl⟩)
      go_ret
      exact ⟨rfl, 0, rfl⟩
theorem ltW (x y : Int) : ltOf Lib.compareInt x y = decide (x < y) := by
  unfold ltOf Lib.compareInt
  by_cases h1 : x < y
  · simp [h1]
  · by_cases h2 : y < x <;> simp [h1, h2]
theorem swoW : SWO (ltOf Lib.compareInt) where
  irrefl x := by rw [ltW]; simp
  trans x y z h1 h2 := by rw [ltW] at *; simp at *; omega
  ntrans x y z h1 h2 := by rw [ltW] at *; simp at *; omega
theorem cmpReadsW (blk off size : Nat) (w : World) : CmpReads Tryz.prog 225 #[] (Value.int .u32) Lib.compareInt blk off size w :=
  fun _ _ _ _ x y => compareW_calls x y _
theorem sortW_list (L : List Int) : (L.mergeSort fun x y => !ltOf Lib.compareInt y x) = sortI L := by
  unfold sortI
  congr 1
  funext x y
  rw [ltW]
  by_cases h : y < x <;> simp [h] <;> omega
theorem lenW (n : Nat) (W : World) (h : n ≤ 12) : Calls Tryz.prog 114 #[.int .u64 n] W fun e w' => (∃ l : Int, e = .returned (.int .i64 l)) ∧ w' = W :=
  (Tryz.bits_Len n W (by omega) (by omega)).mono fun _ _ ⟨he, hw⟩ => ⟨⟨_, he⟩, hw⟩
theorem putCells_W (L M : List Int) (h : M.length = L.length) : putCells (Value.int .u32) 0 M.toArray (arrW L) = arrW M := by
  apply Array.ext_getElem?
  intro k
  unfold putCells arrW
  rw [Array.getElem?_mapIdx]
  by_cases hk : k < L.length
  · have hk2 : k < M.length := by omega
    simp [hk, hk2]
  · have hk2 : ¬ k < M.length := by omega
    simp [hk, hk2]
theorem sortFuncW (L : List Int) (h6 : L.length = 6) (g : Nat) (t : TypeId) (w : World) (hg : w.heap[g]? = some (.cells (arrW L) t (0, 0))) :
    Calls Tryz.prog 238 #[.slice (some ⟨g, 0, none⟩) 6 6, .func (.func 225) #[] #[]] w fun e w' =>
      e = .returned (.tuple #[]) ∧ w'.heap[g]? = some (.cells (arrW (sortI L)) t (0, 0)) ∧ w.grownBy w' (some g) := by
  have eg : ∀ args w, (callFunc 225 args).run Tryz.prog w = .ok (.enter 225 args) w := enters_of Tryz.func225 (by kernel_rfl) rfl
  have hH : Holds (Value.int .u32) w g 0 L.toArray := by
    intro j hj
    have hj' : j < L.length := by simpa using hj
    refine ⟨?_, Lib.frozen_of_heap hg _⟩
    rw [Lib.cell_of_heap hg]
    simp [arrW, hj']
  have hs : L.toArray.size = 6 := by simpa using h6
  have hcon := Any.slices_SortFunc_small_sorted Tryz.sortW (Value.int .u32) (fun _ => rfl) Lib.compareInt swoW 225 #[] g 0 6 L.toArray w eg (cmpReadsW g 0 _ w) hH (by omega) (fun n W h => lenW n W h)
  rw [hs] at hcon
  refine Calls.mono (show Calls Tryz.prog 238 _ _ _ from hcon) ?_
  rintro e w' ⟨rfl, d', n, hp, hso, rfl⟩
  have hd := sorted_unique_holds swoW (fun x y a b => by rw [ltW] at a b; simp at a b; omega) L.toArray d' (by rw [hs]; exact hp) (by rw [hs]; exact hso)
  rw [sortW_list] at hd
  have hd2 : d' = (sortI L).toArray := by rw [← hd]
  subst hd2
  refine ⟨rfl, ?_, ?_⟩
  · rw [← putCells_W L (sortI L) (sortI_len L)]
    show (putRow (Value.int .u32) w g 0 _).heap[g]? = _
    simp only [putRow, mapBlock, Array.getElem?_modify, hg, if_true, Option.map_some, onCells]
  · refine ⟨rfl, rfl, rfl, by simp [putRow, mapBlock, World.drewN], fun k hk hne => ?_⟩
    have : g ≠ k := fun e => hne (by rw [e])
    simp [putRow, mapBlock, World.drewN, Array.getElem?_modify, this]
end
theorem sxInfo : (Tryz.prog.info? 179).map (·.size) = some 6 := by kernel_rfl
set_option maxHeartbeats 1000000 in
theorem sorted_calls (L : List Int) (h6 : L.length = 6) (w : World) :
    Calls Tryz.prog 224 #[.agg (arrW L), .func (.func 225) #[] #[]] w fun e w' => e = .returned (.agg (arrW (sortI L))) ∧ Below w.heap.size w w' := by
  have HS := Lib.hid (fun g t W h => sortFuncW L h6 g t W h)
  have h62 : (sortI L).length = 6 := by rw [sortI_len, h6]
  obtain ⟨a, b, c, d, e, f, rfl⟩ := six_of h6
  obtain ⟨a', b', c', d', e', f', hs⟩ := six_of h62
  rw [hs] at HS ⊢
  rw [arrW_six, arrW_six] at *
  clear h6 h62 hs
  go_enter Tryz.func224, Tryz.ntmps224
  go_wp2_with fail
  refine (HS.out _ _ _ ((Blk.new w 179 _).alloc _)).mono ?_
  rintro e0 w2 ⟨rfl, hg2, gr⟩
  have Q0 : Blk w2 w.heap.size 179 #[.int .u32 a', .int .u32 b', .int .u32 c', .int .u32 d', .int .u32 e', .int .u32 f'] := hg2
  have Q1 : Blk w2 (w.heap.size + 1) 179 #[.int .u32 0, .int .u32 0, .int .u32 0, .int .u32 0, .int .u32 0, .int .u32 0] := (gr.block (w.heap.size + 1) (by simp only [alloc_sz]; omega) (by simp)).trans (Blk.new1 w _ _ _)
  obtain ⟨q0, q1, q2, q3, q4, q5, qf⟩ := Q0.six
  obtain ⟨r0, r1, r2, r3, r4, r5, rf⟩ := Q1.six
  have HQ := Lib.hid Q1
  have HB := Lib.hid ((((Below.refl w.heap.size w).alloc (Nat.le_refl _) (.cells #[.int .u32 a, .int .u32 b, .int .u32 c, .int .u32 d, .int .u32 e, .int .u32 f] 179)).alloc (by simp only [alloc_sz]; omega) (.cells #[.int .u32 0, .int .u32 0, .int .u32 0, .int .u32 0, .int .u32 0, .int .u32 0] 179)).grown gr (by simp only [alloc_sz]; omega) (fun k e => by cases e; exact Nat.le_refl _))
  clear Q0 Q1 gr hg2
  simp only []
  repeat (first | go_step | go_guarded | go_skip)
  exact bodyPost_ret (results_c rfl rfl HQ.out.set6 Tryz.underlying179 rfl sxInfo) rfl ⟨rfl, below_set6 HB.out (Nat.le_succ _)⟩
theorem idxS0 (v0 v1 v2 v3 v4 v5 : Value) (W : World) : (Instr.index 179 (.agg #[v0, v1, v2, v3, v4, v5]) (.int .i64 0)).run Tryz.prog W = .ok v0 W := by kernel_rfl
theorem idxS1 (v0 v1 v2 v3 v4 v5 : Value) (W : World) : (Instr.index 179 (.agg #[v0, v1, v2, v3, v4, v5]) (.int .i64 1)).run Tryz.prog W = .ok v1 W := by kernel_rfl
theorem idxS2 (v0 v1 v2 v3 v4 v5 : Value) (W : World) : (Instr.index 179 (.agg #[v0, v1, v2, v3, v4, v5]) (.int .i64 2)).run Tryz.prog W = .ok v2 W := by kernel_rfl
theorem idxS3 (v0 v1 v2 v3 v4 v5 : Value) (W : World) : (Instr.index 179 (.agg #[v0, v1, v2, v3, v4, v5]) (.int .i64 3)).run Tryz.prog W = .ok v3 W := by kernel_rfl
theorem idxS4 (v0 v1 v2 v3 v4 v5 : Value) (W : World) : (Instr.index 179 (.agg #[v0, v1, v2, v3, v4, v5]) (.int .i64 4)).run Tryz.prog W = .ok v4 W := by kernel_rfl
theorem idxS5 (v0 v1 v2 v3 v4 v5 : Value) (W : World) : (Instr.index 179 (.agg #[v0, v1, v2, v3, v4, v5]) (.int .i64 5)).run Tryz.prog W = .ok v5 W := by kernel_rfl
def z6 : Array Value := #[.int .i64 0, .int .i64 0, .int .i64 0, .int .i64 0, .int .i64 0, .int .i64 0]
theorem mk6s (W : World) : (Instr.makeSlice 61 (.int .i64 6) (.int .i64 6)).run Tryz.prog W = .ok (.slice (some ⟨W.heap.size, 0, none⟩) 6 6) (W.alloc (.cells z6 3)) := by kernel_rfl
theorem own_blk6 {w : World} {B g : Nat} {a b c d e f : Int} (h : Blk w g 3 #[.int .i64 a, .int .i64 b, .int .i64 c, .int .i64 d, .int .i64 e, .int .i64 f]) (hB : B ≤ g) : Own w B (.slice (some ⟨g, 0, none⟩) 6 6) [a, b, c, d, e, f] :=
  ⟨rfl, .inr ⟨g, 6, _, rfl, hB, h, Nat.le_refl _, by unfold maxLen; omega, rfl, rfl⟩⟩
set_option maxRecDepth 100000 in
set_option maxHeartbeats 1000000 in
theorem sxList_calls (L : List Int) (h6 : L.length = 6) (hw : ∀ x ∈ L, IsW x) (w : World) :
    Calls Tryz.prog 189 #[.agg (arrW L)] w fun e w' => ∃ v, e = .returned v ∧ Own w' w.heap.size v L ∧ Below w.heap.size w w' := by
  obtain ⟨a, b, c, d, e, f, rfl⟩ := six_of h6
  rw [arrW_six]
  have wa := hw a (by simp)
  have wb := hw b (by simp)
  have wc := hw c (by simp)
  have wd := hw d (by simp)
  have we := hw e (by simp)
  have wf := hw f (by simp)
  have HM := mk6s
  have i0 := idxS0
  have i1 := idxS1
  have i2 := idxS2
  have i3 := idxS3
  have i4 := idxS4
  have i5 := idxS5
  unfold IsW at *
  clear hw h6
  go_enter Tryz.func189, Tryz.ntmps189
  go_wp2_with fail
  refine wp_loop_rounds 7 ?_
  iterate 7 (rw [rounds_succ]; go_wp2_with fail)
  go_ret
  exact ⟨_, rfl, own_blk6 (Blk.new1 w _ _ _) (Nat.le_succ _), ((Below.refl _ w).alloc (Nat.le_refl _) _).alloc (by simp) _⟩
theorem octs_itS (a b : Int) (wa : IsW a) (wb : IsW b) (k n₀ : Nat) (hk : k = 4096) (w : World) (hn : n₀ ≤ w.heap.size) (hg : tab2G < n₀) (hT : Tab2 w) :
    SeqItG Tryz.prog 232 #[.pointer (some ⟨w.heap.size, 0, none⟩), .pointer (some ⟨w.heap.size + 1, 0, none⟩)] (encO (a := a) (b := b)) 10 (KpOf n₀ w.heap.size (w.heap.size + 2)) (fun ys => ys.map (fun x => x.val) = (octF k).filter (oC a b)) (fun _ => True) (OcAt a b) (owW a b w) := by
  have hs := owW_size a b w
  have hc := owW_cells a b w
  have hb := owW_below a b w
  have hT2 := hT.below hb hT.lt
  generalize owW a b w = W at *
  exact octads_itG a b wa wb k n₀ w.heap.size (w.heap.size + 2) w.heap.size (w.heap.size + 1) hk W (by omega) (by omega) (Nat.le_refl _) (by omega) (by omega) (by omega) (by omega) (by omega) hg hc.1 hc.2 hT2
/-- The array while it fills. -/
def padS (n : Int) (L : List Int) : List Int := (n :: L.map fun x => xorI x n) ++ List.replicate (5 - L.length) 0
theorem padS_nil (n : Int) : padS n [] = [n, 0, 0, 0, 0, 0] := rfl
theorem padS_snoc (n : Int) (L : List Int) (x : Int) (h : L.length < 5) : (padS n L).set (L.length + 1) (xorI x n) = padS n (L ++ [x]) := by
  unfold padS
  rw [show 5 - L.length = (5 - (L.length + 1)) + 1 by omega, List.replicate_succ, List.length_append, List.length_singleton, List.set_append_right _ _ (by simp), List.length_cons, List.length_map, Nat.sub_self, List.set_cons_zero, List.map_append]
  simp
theorem padS_len (n : Int) (L : List Int) (h : L.length ≤ 5) : (padS n L).length = 6 := by
  unfold padS
  simp only [List.length_append, List.length_cons, List.length_map, List.length_replicate]
  omega
theorem padS_five (n : Int) (L : List Int) (h : L.length = 5) : padS n L = n :: L.map fun x => xorI x n := by
  unfold padS
  rw [h]
  simp
theorem filter_with (n : Int) (L : List Int) : L.filter (oC n 0) = L.filter fun x => andI x n == n := by
  refine List.filter_congr fun x _ => ?_
  have : andI x 0 = 0 := by simp [andI]
  simp [oC, this]
theorem with_perm (n : Int) (k : Nat) (hk : k = 4096) : ((octF k).filter (oC n 0)).Perm (oWith n) := by
  rw [filter_with]
  exact (octF_perm k hk).filter _
theorem less_in {x n : Int} (hx : 0 ≤ x) (hn : 0 ≤ n) (h : andI x n = n) : lessI x n = xorI x n := by
  obtain ⟨X, rfl⟩ := Int.eq_ofNat_of_zero_le hx
  obtain ⟨N, rfl⟩ := Int.eq_ofNat_of_zero_le hn
  rw [andI_nat] at h
  have h' : X &&& N = N := by omega
  unfold lessI xorI
  simp only [Int.toNat_natCast]
  rw [h']
theorem arrW_at {w : World} {g j : Nat} {t : TypeId} (xs : List Int) (hj : j < xs.length) (hg : w.heap[g]? = some (.cells (arrW xs) t (0, 0))) : w.cell? ⟨g, j, none⟩ = some (.int .u32 (xs.getD j 0)) := by
  rw [Lib.cell_of_heap hg]
  simp [arrW, hj]
theorem arrW_set {w : World} {g j : Nat} {t : TypeId} (xs : List Int) (x : Int) (hg : w.heap[g]? = some (.cells (arrW xs) t (0, 0))) : (w.setCell ⟨g, j, none⟩ (.int .u32 x)).heap[g]? = some (.cells (arrW (xs.set j x)) t (0, 0)) := by
  have := heap_setCell_same w g j (arrW xs) t (.int .u32 x) hg
  unfold arrW at this ⊢
  rw [List.setIfInBounds_toArray, ← List.map_set] at this
  exact this
theorem set_boxS {V : World} {g : Nat} {u v : Value} {t : TypeId} (h : V.heap[g]? = some (.cells #[u] t (0, 0))) : (V.setCell ⟨g, 0, none⟩ v).heap[g]? = some (.cells #[v] t (0, 0)) := by
  have := heap_setCell_same V g 0 #[u] t v h
  simpa using this
theorem sx_fin {w V : World} {j : Nat} {cs Z : List Int} {y : Int} {v : Value} {b0 b1 : Obj} (h0 : V.heap[w.heap.size]? = some b0) (h1 : V.heap[w.heap.size + 1]? = some b1) (h2 : V.heap[w.heap.size + 2]? = some (.cells (arrW cs) 179 (0, 0))) (u : Value) (h3 : V.heap[w.heap.size + 3]? = some (.cells #[u] 3 (0, 0))) (hB : Below w.heap.size w V) (hZ : cs.set j y = Z)
    (lw mid B K : Nat) (hlw : w.heap.size + 3 < lw) (hB0 : w.heap.size + 3 < B) :
    KeepsIn B (B + 2 + K) V ((V.setCell ⟨w.heap.size + 2, j, none⟩ (.int .u32 y)).setCell ⟨w.heap.size + 3, 0, none⟩ v) ∧ KpOf w.heap.size lw mid V ((V.setCell ⟨w.heap.size + 2, j, none⟩ (.int .u32 y)).setCell ⟨w.heap.size + 3, 0, none⟩ v) ∧
      (((((V.setCell ⟨w.heap.size + 2, j, none⟩ (.int .u32 y)).setCell ⟨w.heap.size + 3, 0, none⟩ v).heap[w.heap.size]? = some b0 ∧ ((V.setCell ⟨w.heap.size + 2, j, none⟩ (.int .u32 y)).setCell ⟨w.heap.size + 3, 0, none⟩ v).heap[w.heap.size + 1]? = some b1) ∧ ((V.setCell ⟨w.heap.size + 2, j, none⟩ (.int .u32 y)).setCell ⟨w.heap.size + 3, 0, none⟩ v).heap[w.heap.size + 2]? = some (.cells (arrW Z) 179 (0, 0))) ∧ ((V.setCell ⟨w.heap.size + 2, j, none⟩ (.int .u32 y)).setCell ⟨w.heap.size + 3, 0, none⟩ v).heap[w.heap.size + 3]? = some (.cells #[v] 3 (0, 0))) ∧ Below w.heap.size w ((V.setCell ⟨w.heap.size + 2, j, none⟩ (.int .u32 y)).setCell ⟨w.heap.size + 3, 0, none⟩ v) := by
  have k1 : ∀ q, q ≠ w.heap.size + 2 → (V.setCell ⟨w.heap.size + 2, j, none⟩ (.int .u32 y)).heap[q]? = V.heap[q]? := fun q hq => Below.heap_setCell V _ _ q hq
  have a2 := arrW_set (j := j) cs y h2
  rw [hZ] at a2
  have h3' := (k1 (w.heap.size + 3) (by omega)).trans h3
  have b2 : Below w.heap.size V (V.setCell ⟨w.heap.size + 2, j, none⟩ (.int .u32 y)) := (Below.refl _ V).setCell (show w.heap.size ≤ w.heap.size + 2 by omega) _
  have e0 := (k1 w.heap.size (by omega)).trans h0
  have e1 := (k1 (w.heap.size + 1) (by omega)).trans h1
  have kk : ∀ q, q ≠ w.heap.size + 2 → q ≠ w.heap.size + 3 → ((V.setCell ⟨w.heap.size + 2, j, none⟩ (.int .u32 y)).setCell ⟨w.heap.size + 3, 0, none⟩ v).heap[q]? = V.heap[q]? := fun q hq hq3 => (Below.heap_setCell _ _ _ q hq3).trans (k1 q hq)
  have b3 : Below w.heap.size V ((V.setCell ⟨w.heap.size + 2, j, none⟩ (.int .u32 y)).setCell ⟨w.heap.size + 3, 0, none⟩ v) := b2.setCell (show w.heap.size ≤ w.heap.size + 3 by omega) _
  refine ⟨⟨b3.size, fun q h1 h2 => kk q (by omega) (by omega)⟩, ⟨b3, ⟨b3.size, fun q h1 h2 => kk q (by omega) (by omega)⟩⟩, ⟨⟨⟨(kk _ (by omega) (by omega)).trans h0, (kk _ (by omega) (by omega)).trans h1⟩, ?_⟩, ?_⟩, hB.trans b3⟩
  · exact (Below.heap_setCell _ _ _ (w.heap.size + 2) (show w.heap.size + 2 ≠ w.heap.size + 3 by omega)).trans a2
  · exact set_boxS h3'
theorem sx_finX {w V X : World} {j : Nat} {cs Z : List Int} {y : Int} {v : Value} {b0 b1 : Obj} (h0 : V.heap[w.heap.size]? = some b0) (h1 : V.heap[w.heap.size + 1]? = some b1) (h2 : V.heap[w.heap.size + 2]? = some (.cells (arrW cs) 179 (0, 0))) (u : Value) (h3 : V.heap[w.heap.size + 3]? = some (.cells #[u] 3 (0, 0))) (hB : Below w.heap.size w V) (hZ : cs.set j y = Z)
    (lw mid B K : Nat) (hlw : w.heap.size + 3 < lw) (hB0 : w.heap.size + 3 < B) (hX : X.heap = ((V.setCell ⟨w.heap.size + 2, j, none⟩ (.int .u32 y)).setCell ⟨w.heap.size + 3, 0, none⟩ v).heap) (hX2 : X.os = V.os ∧ X.tape = V.tape ∧ X.output = V.output) :
    KeepsIn B (B + 2 + K) V X ∧ KpOf w.heap.size lw mid V X ∧ ((((X.heap[w.heap.size]? = some b0 ∧ X.heap[w.heap.size + 1]? = some b1) ∧ X.heap[w.heap.size + 2]? = some (.cells (arrW Z) 179 (0, 0))) ∧ X.heap[w.heap.size + 3]? = some (.cells #[v] 3 (0, 0))) ∧ Below w.heap.size w X) := by
  obtain ⟨k1, k2, ⟨⟨⟨e0, e1⟩, e2⟩, e3⟩, e4⟩ := sx_fin (v := v) h0 h1 h2 u h3 hB hZ lw mid B K hlw hB0
  have bX : Below w.heap.size V X := ⟨hX2.1, hX2.2.1, hX2.2.2, by rw [hX]; exact k2.1.size, fun q hq => by rw [hX]; exact k2.1.block q hq⟩
  rw [← hX] at e0 e1 e2 e3
  exact ⟨⟨by rw [hX]; exact k1.size, fun q a b => by rw [hX]; exact k1.at_ q a b⟩, ⟨bX, ⟨by rw [hX]; exact k2.2.size, fun q a b => by rw [hX]; exact k2.2.at_ q a b⟩⟩, ⟨⟨⟨e0, e1⟩, e2⟩, e3⟩, hB.trans bX⟩
set_option maxRecDepth 100000 in
set_option maxHeartbeats 600000 in
theorem sextet_in (n : Int) (hn : Tet n) (k : Nat) (hk : k = 4096) (w : World) (hT : Tab2 w) :
    CallsIn Fence.wide 6 Tryz.prog 188 #[.int .u32 n] w fun e w' => e = .returned (.agg (arrW (sxOf n))) ∧ Below w.heap.size w w' := by
  have wn : IsW n := ⟨hn.1, hn.2.1⟩
  refine callsIn_of_wp_marks Tryz.func188 rfl trivial ?_ rfl
  simp only [Tryz.ntmps188, List.size_toArray, List.length_cons, List.length_nil, Nat.reduceAdd, Nat.reduceSub, Array.replicate_succ, Array.replicate_zero, List.push_toArray, List.append_toArray, List.nil_append, List.cons_append]
  gi_wp2_with (refine ⟨trivial, ?_⟩; gi_at_call 211; refine (callsIn_wide.2 (octadsWith_calls _ _ _)).mono ?_; rintro e w' ⟨rfl, rfl⟩)
  have hsz : ((((w.alloc (.cells #[.int .u32 n] 55)).alloc (.cells #[.int .u32 0, .int .u32 0, .int .u32 0, .int .u32 0, .int .u32 0, .int .u32 0] 179)).alloc (.cells #[.int .u32 n, .int .u32 0, .int .u32 0, .int .u32 0, .int .u32 0, .int .u32 0] 179)).alloc (.cells #[.int .i64 1] 3)).heap.size = w.heap.size + 4 := by simp
  have hb2 : Below w.heap.size w ((((w.alloc (.cells #[.int .u32 n] 55)).alloc (.cells #[.int .u32 0, .int .u32 0, .int .u32 0, .int .u32 0, .int .u32 0, .int .u32 0] 179)).alloc (.cells #[.int .u32 n, .int .u32 0, .int .u32 0, .int .u32 0, .int .u32 0, .int .u32 0] 179)).alloc (.cells #[.int .i64 1] 3)) := ((((Below.refl _ w).alloc (Nat.le_refl _) _).alloc (by simp) _).alloc (by simp; omega) _).alloc (by simp; omega) _
  have hX0 : Blk ((((w.alloc (.cells #[.int .u32 n] 55)).alloc (.cells #[.int .u32 0, .int .u32 0, .int .u32 0, .int .u32 0, .int .u32 0, .int .u32 0] 179)).alloc (.cells #[.int .u32 n, .int .u32 0, .int .u32 0, .int .u32 0, .int .u32 0, .int .u32 0] 179)).alloc (.cells #[.int .i64 1] 3)) w.heap.size 55 #[.int .u32 n] := (((Blk.new w _ _).alloc _).alloc _).alloc _
  have hX1 : Blk ((((w.alloc (.cells #[.int .u32 n] 55)).alloc (.cells #[.int .u32 0, .int .u32 0, .int .u32 0, .int .u32 0, .int .u32 0, .int .u32 0] 179)).alloc (.cells #[.int .u32 n, .int .u32 0, .int .u32 0, .int .u32 0, .int .u32 0, .int .u32 0] 179)).alloc (.cells #[.int .i64 1] 3)) (w.heap.size + 1) 179 #[.int .u32 0, .int .u32 0, .int .u32 0, .int .u32 0, .int .u32 0, .int .u32 0] := ((Blk.new1 w _ _ _).alloc _).alloc _
  have hX2 : Blk ((((w.alloc (.cells #[.int .u32 n] 55)).alloc (.cells #[.int .u32 0, .int .u32 0, .int .u32 0, .int .u32 0, .int .u32 0, .int .u32 0] 179)).alloc (.cells #[.int .u32 n, .int .u32 0, .int .u32 0, .int .u32 0, .int .u32 0, .int .u32 0] 179)).alloc (.cells #[.int .i64 1] 3)) (w.heap.size + 2) 179 (arrW (padS n (([] : List (Oc n 0)).map fun x => x.val))) := by
    have := Blk.new1 (w.alloc (.cells #[.int .u32 n] 55)) (.cells #[.int .u32 0, .int .u32 0, .int .u32 0, .int .u32 0, .int .u32 0, .int .u32 0] 179) 179 #[.int .u32 n, .int .u32 0, .int .u32 0, .int .u32 0, .int .u32 0, .int .u32 0]
    rw [alloc_sz] at this
    exact this.alloc _
  have hX3 : Blk ((((w.alloc (.cells #[.int .u32 n] 55)).alloc (.cells #[.int .u32 0, .int .u32 0, .int .u32 0, .int .u32 0, .int .u32 0, .int .u32 0] 179)).alloc (.cells #[.int .u32 n, .int .u32 0, .int .u32 0, .int .u32 0, .int .u32 0, .int .u32 0] 179)).alloc (.cells #[.int .i64 1] 3)) (w.heap.size + 3) 3 #[.int .i64 ((([] : List (Oc n 0)).length + 1 : Nat))] := by
    have := Blk.new1 ((w.alloc (.cells #[.int .u32 n] 55)).alloc (.cells #[.int .u32 0, .int .u32 0, .int .u32 0, .int .u32 0, .int .u32 0, .int .u32 0] 179)) (.cells #[.int .u32 n, .int .u32 0, .int .u32 0, .int .u32 0, .int .u32 0, .int .u32 0] 179) 3 #[.int .i64 1]
    rw [alloc_sz, alloc_sz] at this
    exact this
  generalize (((w.alloc (.cells #[.int .u32 n] 55)).alloc (.cells #[.int .u32 0, .int .u32 0, .int .u32 0, .int .u32 0, .int .u32 0, .int .u32 0] 179)).alloc (.cells #[.int .u32 n, .int .u32 0, .int .u32 0, .int .u32 0, .int .u32 0, .int .u32 0] 179)).alloc (.cells #[.int .i64 1] 3) = w2 at *
  have hT2 : Tab2 w2 := hT.below hb2 hT.lt
  have hs4 := owW_size n 0 w2
  have hcb := owW_below n 0 w2
  have w00 : IsW 0 := ⟨by omega, by omega⟩
  have hit := octs_itS n 0 wn w00 k w.heap.size hk w2 (by omega) hT.lt hT2
  rw [hsz] at hit hs4
  have hX04 := (hcb.block w.heap.size (by omega)).trans hX0
  have hX14 := (hcb.block (w.heap.size + 1) (by omega)).trans hX1
  have hX24 := (hcb.block (w.heap.size + 2) (by omega)).trans hX2
  have hX34 := (hcb.block (w.heap.size + 3) (by omega)).trans hX3
  have hB4 : Below w.heap.size w (owW n 0 w2) := hb2.trans (hcb.mono hb2.size)
  clear hX0 hX1 hX2 hX3 hb2 hcb
  generalize owW n 0 w2 = w4 at *
  have HP := Lib.hid (with_perm n k hk)
  have H5 := Lib.hid (oWith_tet hn)
  refine wp_range_it (gf := 232) (lb := #[.pointer (some ⟨w.heap.size + 1 + 1 + 1 + 1, 0, none⟩), .pointer (some ⟨w.heap.size + 1 + 1 + 1 + 1 + 1, 0, none⟩)]) rfl (enters_of Tryz.func232 (by kernel_rfl) rfl) hit (fun h k => KpOf.trans h k) (fun V j o hj hjl => KpOf.put V j o (by omega) (by omega) hjl) (Below.refl _ _) (fun _ => rfl)
    (fun (pre : List (Oc n 0)) V => (((V.heap[w.heap.size]? = some (.cells #[.int .u32 n] 55 (0, 0)) ∧ V.heap[w.heap.size + 1]? = some (.cells #[.int .u32 0, .int .u32 0, .int .u32 0, .int .u32 0, .int .u32 0, .int .u32 0] 179 (0, 0))) ∧ V.heap[w.heap.size + 2]? = some (.cells (arrW (padS n (pre.map fun x => x.val))) 179 (0, 0))) ∧ V.heap[w.heap.size + 3]? = some (.cells #[.int .i64 ((pre.length + 1 : Nat))] 3 (0, 0))) ∧ Below w.heap.size w V)
    (fun _ _ _ => False)
    (((((ownFrom_at _ (by omega)).and (ownFrom_at _ (by omega))).and (ownFrom_at (fun (pre : List (Oc n 0)) => .cells (arrW (padS n (pre.map fun x => x.val))) 179 (0, 0)) (by omega))).and (ownFrom_at (fun (pre : List (Oc n 0)) => .cells #[.int .i64 ((pre.length + 1 : Nat))] 3 (0, 0)) (by omega))).and (ownFrom_below (Nat.le_refl _) (by omega)))
    (fun _ _ _ _ _ hs _ _ => hs)
    ⟨⟨⟨⟨hX04, hX14⟩, hX24⟩, hX34⟩, hB4⟩
    (fun x => { tmps := #[.int .u32 n, .pointer (some ⟨w.heap.size, 0, none⟩), .pointer (some ⟨w.heap.size + 1, 0, none⟩), .pointer (some ⟨w.heap.size + 1 + 1, 0, none⟩), .pointer (some ⟨w.heap.size + 1 + 1 + 1, 0, none⟩), .int .u32 x.val, .int .u32 n, .agg #[.int .u32 n, .int .u32 0, .int .u32 0, .int .u32 0, .int .u32 0, .int .u32 0], .int .u32 n, .func (.func 232) #[] #[.pointer (some ⟨w.heap.size + 1 + 1 + 1 + 1, 0, none⟩), .pointer (some ⟨w.heap.size + 1 + 1 + 1 + 1 + 1, 0, none⟩)], .int .u32 x.val, undef, undef, undef, undef, undef, undef, undef, undef, undef], defers := [] }) ?assign ?body ?done ?stop
  case assign =>
    intro l x V K hK
    unfold encO
    gi_wp2
    first
      | exact hK
      | (go_simp; exact hK)
  case body =>
    rintro l pre x V ⟨⟨⟨⟨h0, h1⟩, h2⟩, h3⟩, hB⟩ hat hsK
    have hmx : Tryz.prog.follows .mixedOrders = true := by kernel_rfl
    have hd : 1 ≤ 6 - 1 - 1 := by omega
    have hx := x.property.1
    have wx : IsW x.val := hx.rng
    have hsub : andI x.val n = n := by have := x.property.2; simp [oC] at this; exact this.1
    have hle := (hat.sub k hk).length_le
    rw [HP.out.length_eq, H5.out, List.length_map, List.length_append, List.length_singleton] at hle
    have hS : (padS n (pre.map fun x => x.val)).set (pre.length + 1) (xorI x.val n) = padS n ((pre ++ [x]).map fun x => x.val) := by
      have := padS_snoc n (pre.map fun x => x.val) x.val (by rw [List.length_map]; omega)
      rw [List.length_map] at this
      rw [this, List.map_append]
      rfl
    have hc0 : V.cell? ⟨w.heap.size, 0, none⟩ = some (.int .u32 n) := Boxed.cell (t := 55) h0
    have hc3 : V.cell? ⟨w.heap.size + 3, 0, none⟩ = some (.int .i64 ((pre.length + 1 : Nat))) := Boxed.cell (t := 3) h3
    have hf3 : V.frozen? ⟨w.heap.size + 3, 0, none⟩ = false := Lib.frozen_of_heap h3 _
    have hf2 : V.frozen? ⟨w.heap.size + 2, pre.length + 1, none⟩ = false := Lib.frozen_of_heap h2 _
    have hc2 := arrW_at (j := pre.length + 1) _ (by rw [padS_len _ _ (by rw [List.length_map]; omega)]; omega) h2
    generalize (padS n (pre.map fun x => x.val)).getD (pre.length + 1) 0 = z at *
    have hln : (((pre ++ [x]).length + 1 : Nat) : Int) = ((pre.length + 1 : Nat) : Int) + 1 := by simp
    have hr6 : pre.length + 1 < 6 := by omega
    have HL := Lib.hid (less_in wx.1 wn.1 hsub)
    have HF := Lib.hid (fun X v => sx_finX (X := X) (v := v) h0 h1 h2 _ h3 hB hS (w.heap.size + 4) (w.heap.size + 6) w4.heap.size 10 (by omega) (by omega))
    have HLN := Lib.hid hln
    clear h0 h1 h2 h3 hB hS hit hB4 hX04 hX14 hX24 hX34 hsub hln hat hx
    clear hle
    generalize pre.length + 1 = q at *
    generalize xorI x.val n = y at *
    generalize x.val = xv at *
    have hq0 : (0 : Int) ≤ (q : Int) := by omega
    have hq1 : (q : Int) < 6 := by omega
    gi_wp2_with fail
    gi_region_with_o (first
      | (refine ⟨trivial, ?_⟩; refine (CallsIn.inRound l (callsIn_wide.2 (word_less _ _ _ wx.1 wx.2 wn.1 wn.2))).mono ?_; rintro e w' ⟨he, rfl⟩; rw [HL.out] at he; subst he))
    all_goals gi_wp2
    all_goals
      simp only [postIt]
      rw [HLN.out]
      exact HF.out _ _ rfl ⟨rfl, rfl, rfl⟩
  case done =>
    rintro D ys V hD hS ⟨⟨⟨⟨h0, h1⟩, h2⟩, h3⟩, hB⟩ hK
    have hl5 : (ys.map fun x => x.val).length = 5 := by rw [hS, HP.out.length_eq]; exact H5.out
    have hso : sortI (padS n (ys.map fun x => x.val)) = sxOf n := by
      rw [padS_five _ _ hl5, hS]
      unfold sxOf ofSx
      exact sortI_congr (List.Perm.cons _ (HP.out.map _))
    have h6 : (padS n (ys.map fun x => x.val)).length = 6 := padS_len _ _ (by omega)
    generalize padS n (ys.map fun x => x.val) = L at *
    have hV1 : w.heap.size + 2 < V.heap.size := (Array.getElem?_eq_some_iff.1 h2).1
    have hDV : D < V.heap.size := (Array.getElem?_eq_some_iff.1 hK).1
    have HC := Lib.hid (sorted_calls L h6)
    rw [hso] at HC
    obtain ⟨a, b, c, d, e, f, rfl⟩ := six_of h6
    have h62 : (sxOf n).length = 6 := by rw [sxOf_len hn]
    obtain ⟨a', b', c', d', e', f', hs⟩ := six_of h62
    rw [hs, arrW_six, arrW_six] at HC
    rw [arrW_six] at h2
    have HE := Lib.hid (show arrW (sxOf n) = #[.int .u32 a', .int .u32 b', .int .u32 c', .int .u32 d', .int .u32 e', .int .u32 f'] by rw [hs]; rfl)
    obtain ⟨q0, q1, q2, q3, q4, q5, qf⟩ := (show Blk V (w.heap.size + 2) 179 _ from h2).six
    have H1 := Lib.hid h1
    have HB := Lib.hid hB
    have HK := Lib.hid hK
    clear h0 h1 h2 h3 hB hS hso h6 h62 hs hl5 hit hB4 hX04 hX14 hX24 hX34 hK
    gi_wp2_with fail
    refine ⟨trivial, ?_⟩
    refine (callsIn_wide.2 (HC.out V)).mono ?_
    rintro e V2 ⟨rfl, b2⟩
    have Q1 : Blk V2 (w.heap.size + 1) 179 #[.int .u32 0, .int .u32 0, .int .u32 0, .int .u32 0, .int .u32 0, .int .u32 0] := (b2.block _ (by omega)).trans H1.out
    have hK2 : V2.heap[D]? = some (.deferred (some [])) := (b2.block D hDV).trans HK.out
    obtain ⟨r0, r1, r2, r3, r4, r5, rf⟩ := Q1.six
    have HQ := Lib.hid Q1
    have HK2 := Lib.hid hK2
    have HB2 := Lib.hid (HB.out.trans (b2.mono HB.out.size))
    clear Q1 hK2 b2
    simp only []
    repeat (first | gi_step | go_guarded | go_skip)
    have hD1 : w.heap.size + 1 < D := by omega
    have HK3 := (Below.heap_setCell _ ⟨w.heap.size + 1, 5, none⟩ (.int .u32 f') D (Nat.ne_of_gt hD1)).trans ((Below.heap_setCell _ ⟨w.heap.size + 1, 4, none⟩ (.int .u32 e') D (Nat.ne_of_gt hD1)).trans ((Below.heap_setCell _ ⟨w.heap.size + 1, 3, none⟩ (.int .u32 d') D (Nat.ne_of_gt hD1)).trans ((Below.heap_setCell _ ⟨w.heap.size + 1, 2, none⟩ (.int .u32 c') D (Nat.ne_of_gt hD1)).trans ((Below.heap_setCell _ ⟨w.heap.size + 1, 1, none⟩ (.int .u32 b') D (Nat.ne_of_gt hD1)).trans ((Below.heap_setCell V2 ⟨w.heap.size + 1, 0, none⟩ (.int .u32 a') D (Nat.ne_of_gt hD1)).trans HK2.out)))))
    have HB3 := below_set6 (x0 := .int .u32 a') (x1 := .int .u32 b') (x2 := .int .u32 c') (x3 := .int .u32 d') (x4 := .int .u32 e') (x5 := .int .u32 f') HB2.out (Nat.le_succ w.heap.size)
    have HQ3 := HQ.out.set6 (x0 := .int .u32 a') (x1 := .int .u32 b') (x2 := .int .u32 c') (x3 := .int .u32 d') (x4 := .int .u32 e') (x5 := .int .u32 f')
    generalize (((((V2.setCell ⟨w.heap.size + 1, 0, none⟩ (.int .u32 a')).setCell ⟨w.heap.size + 1, 1, none⟩ (.int .u32 b')).setCell ⟨w.heap.size + 1, 2, none⟩ (.int .u32 c')).setCell ⟨w.heap.size + 1, 3, none⟩ (.int .u32 d')).setCell ⟨w.heap.size + 1, 4, none⟩ (.int .u32 e')).setCell ⟨w.heap.size + 1, 5, none⟩ (.int .u32 f') = V3 at *
    refine ⟨by simp, .inl ⟨_, _, rfl, run_takeDeferred HK3, ?_⟩⟩
    exact ⟨_, results_c rfl rfl ((World.putObj_heap_other (by omega)).trans HQ3 : Blk _ _ _ _) Tryz.underlying179 rfl sxInfo, by rw [HE.out], HB3.trans (belowK_b (w := w) (Nat.le_refl _) V3 D _ _ (by omega) HK3 rfl rfl)⟩
  case stop =>
    rintro D c pre V _ _ h _
    exact h.elim
end Go.Proofs.YtcfhfllcdliaoaaGreatDoor
/- Sextets of the program: of a tetrad, of a sum; which lists are sextets. -/
namespace Go.Proofs.YtcfhfllcdliaoaaGreatDoor
open Go.RowKit Go.Shelf
set_option linter.unusedVariables false
attribute [local irreducible] octS cN octF syn

theorem tetB_no {n : Int} (h : tetB n = false) : (n < 0 ∨ 16777215 < n) ∨ (IsW n ∧ wt n ≠ 4) := by
  unfold tetB at h
  rcases hw : wordB n with _ | _
  · exact .inl ((wordB_no n).1 hw)
  · rw [hw] at h
    exact .inr ⟨(wordB_iff n).1 hw, by simpa using h⟩
theorem tetradFrom_yes (n : Int) (w : World) (h : Tet n) :
    Calls Tryz.prog 187 #[.int .i64 n] w fun e w' => e = .returned (.tuple #[.int .u32 n, .bool true]) ∧ ∃ k, w' = w.drewN k := by
  have H4 := Lib.hid h.2.2
  go_enter Tryz.func187, Tryz.ntmps187
  go_wp2_with (first
    | (go_at_call 40; refine (wordFrom_ok n _ h.1 h.2.1).mono ?_; rintro e w' ⟨rfl, rfl⟩)
    | (go_at_call 44; refine (word_weight n _ h.1 h.2.1).mono ?_; rintro e w' ⟨he, k, rfl⟩; rw [H4.out] at he; subst he))
  go_ret2
  exact ⟨rfl, k, rfl⟩
theorem tetradFrom_no (n : Int) (w : World) (h : tetB n = false) :
    Calls Tryz.prog 187 #[.int .i64 n] w fun e w' => e = .returned (.tuple #[.int .u32 0, .bool false]) ∧ ∃ k, w' = w.drewN k := by
  rcases tetB_no h with hn | ⟨wn, h4⟩
  · clear h
    go_enter Tryz.func187, Tryz.ntmps187
    go_wp2_with (go_at_call 40; refine (wordFrom_no n _ hn).mono ?_; rintro e w' ⟨rfl, rfl⟩)
    go_ret2
    exact ⟨rfl, 0, rfl⟩
  · have h41 : (wt n == 4) = false := by simpa using h4
    clear h h4
    generalize hq : wt n = q at *
    have HQ := Lib.hid hq
    clear hq
    go_enter Tryz.func187, Tryz.ntmps187
    go_wp2_with (first
      | (go_at_call 40; refine (wordFrom_ok n _ wn.1 wn.2).mono ?_; rintro e w' ⟨rfl, rfl⟩)
      | (go_at_call 44; refine (word_weight n _ wn.1 wn.2).mono ?_; rintro e w' ⟨he, k, rfl⟩; rw [HQ.out] at he; subst he))
    go_ret2
    exact ⟨rfl, k, rfl⟩
theorem sxOf_w {n : Int} (h : Tet n) : ∀ x ∈ sxOf n, IsW x := fun x hx => ⟨(sxOf_same h hx).1.1, (sxOf_same h hx).1.2.1⟩
set_option maxHeartbeats 1000000 in
theorem iSextetOf_calls (a : Int) (w : World) (hT : Tab2 w) :
    Calls Tryz.prog 135 #[.int .i64 a] w (GotL w (sxA a).1 (sxA a).2) := by
  rcases ha : tetB a with _ | _
  · rw [show sxA a = ([], false) by simp [sxA, ha]]
    have H := Lib.hid ha
    clear ha
    go_enter Tryz.func135, Tryz.ntmps135
    go_wp2_with (go_at_call 187; refine (tetradFrom_no _ _ H.out).mono ?_; rintro e w' ⟨rfl, k, rfl⟩)
    go_ret2
    exact ⟨_, rfl, Own.nil_ _ _, below_drewN (Below.refl _ _) k⟩
  · have hT4 := (tetB_iff a).1 ha
    rw [show sxA a = (sxOf a, true) by simp [sxA, ha]]
    obtain ⟨k, hk⟩ : ∃ k, k = 4096 := ⟨_, rfl⟩
    have HS := Lib.hid (fun W hW => callsIn_wide.1 (sextet_in a hT4 k hk W hW))
    have HL := Lib.hid (sxList_calls (sxOf a) (sxOf_len hT4) (sxOf_w hT4))
    have H := Lib.hid hT4
    clear ha hT4 hk
    generalize sxOf a = L at *
    go_enter Tryz.func135, Tryz.ntmps135
    go_wp2_with fail
    refine (tetradFrom_yes _ _ H.out).mono ?_
    rintro e w' ⟨rfl, q, rfl⟩
    have HB0 := Lib.hid (below_drewN (Below.refl w.heap.size w) q)
    go_wp2_with fail
    refine (HS.out _ (hT.below HB0.out hT.lt)).mono ?_
    rintro e w1 ⟨rfl, b1⟩
    have HB1 := Lib.hid (HB0.out.trans (b1.mono HB0.out.size))
    go_wp2_with fail
    refine (HL.out _).mono ?_
    rintro e w2 ⟨v, rfl, o2, b2⟩
    go_wp2_with fail
    go_ret2
    exact ⟨_, rfl, o2.weak HB1.out.size, HB1.out.trans (b2.mono HB1.out.size)⟩
end Go.Proofs.YtcfhfllcdliaoaaGreatDoor