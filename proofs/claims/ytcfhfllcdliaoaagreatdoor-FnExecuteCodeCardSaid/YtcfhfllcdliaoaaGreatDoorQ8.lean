import Derived.Test.YtcfhfllcdliaoaaGreatDoorH3
import Derived.Test.YtcfhfllcdliaoaaGreatDoorC10
import Derived.Test.YtcfhfllcdliaoaaGreatDoorP2
import Derived.Shelf.RegionOpen
import Derived.Test.YtcfhfllcdliaoaaGreatDoorH7
import Derived.Test.YtcfhfllcdliaoaaGreatDoorP4
import Derived.Deep.QuietTactic
import Derived.BigQuiet
import Derived.Test.YtcfhfllcdliaoaaGreatDoorH10
import Derived.Maps.OwnSet
import Derived.DeepKeys5
/- Five places of a word, of the program. -/
namespace Go.Proofs.YtcfhfllcdliaoaaGreatDoor
open Go.RowKit Go.Shelf
attribute [local go_sem] Oper.semAt_some
set_option linter.unusedVariables false
attribute [local irreducible] cN syn

def fvI (pre : List (Fin 24)) : List Int := pre.map (fun x => ((x.val : Nat) : Int)) ++ List.replicate (5 - pre.length) 0
theorem fvI_len (pre : List (Fin 24)) (h : pre.length ≤ 5) : (fvI pre).length = 5 := by simp [fvI]; omega
theorem fvI_set (pre : List (Fin 24)) (x : Fin 24) (h : pre.length < 5) : (fvI pre).set pre.length ((x.val : Nat) : Int) = fvI (pre ++ [x]) := by
  unfold fvI
  obtain ⟨k, hk⟩ : ∃ k, 5 - pre.length = k + 1 := ⟨5 - pre.length - 1, by omega⟩
  rw [hk, List.replicate_succ, List.set_append_right _ _ (by simp), List.length_map, Nat.sub_self, List.set_cons_zero, List.map_append, List.append_assoc, List.length_append, List.length_singleton, show 5 - (pre.length + 1) = k by omega]
  rfl
theorem fvI_all (pre : List (Fin 24)) (h : pre.length = 5) : fvI pre = pre.map (fun x => ((x.val : Nat) : Int)) := by simp [fvI, h]
def z5 : List Int := [0, 0, 0, 0, 0]
theorem fvInfo : (Tryz.prog.info? 199).map (·.size) = some 5 := by kernel_rfl
theorem fvInfoL (L : List Int) (h : L.length = 5) : (Tryz.prog.info? 199).map (·.size) = some (VL L).size := by rw [VL_size, h]; exact fvInfo
/-- What a round keeps and leaves. -/
theorem five_step {w W : World} {cs Z : List Int} {k x y : Int} {j : Nat} (hB : Below w.heap.size w W) (hi : W.heap[w.heap.size + 2]? = some (.cells (VL [k]) 3 (0, 0))) (hp : W.heap[w.heap.size + 1]? = some (.cells (VL cs) 199 (0, 0)))
    (h0 : W.heap[w.heap.size]? = some (.cells (VL z5) 199 (0, 0))) (hZ : cs.set j x = Z) :
    let W' := (W.setCell ⟨w.heap.size + 1, j, none⟩ (.int .i64 x)).setCell ⟨w.heap.size + 2, 0, none⟩ (.int .i64 y)
    KeepsOthers W W' ∧ Below w.heap.size W W' ∧ ((W'.heap[w.heap.size + 2]? = some (.cells (VL [y]) 3 (0, 0)) ∧ W'.heap[w.heap.size + 1]? = some (.cells (VL Z) 199 (0, 0))) ∧ W'.heap[w.heap.size]? = some (.cells (VL z5) 199 (0, 0))) ∧ Below w.heap.size w W' := by
  intro W'
  have b : Below w.heap.size W W' := ((Below.refl _ W).setCell (p := ⟨w.heap.size + 1, j, none⟩) (by simp) _).setCell (p := ⟨w.heap.size + 2, 0, none⟩) (by simp) _
  have e1 : ∀ q, q ≠ w.heap.size + 1 → (W.setCell ⟨w.heap.size + 1, j, none⟩ (.int .i64 x)).heap[q]? = W.heap[q]? := fun q hq => Below.heap_setCell W _ _ q hq
  have e2 : ∀ q, q ≠ w.heap.size + 2 → W'.heap[q]? = (W.setCell ⟨w.heap.size + 1, j, none⟩ (.int .i64 x)).heap[q]? := fun q hq => Below.heap_setCell _ _ _ q hq
  refine ⟨(KeepsOthers.setCell _ _ _).trans (KeepsOthers.setCell _ _ _), b, ⟨⟨?_, ?_⟩, ?_⟩, hB.trans b⟩
  · exact VL_set (j := 0) [k] y ((e1 _ (by omega)).trans hi)
  · rw [e2 _ (by omega), ← hZ]
    exact VL_set (j := j) cs x hp
  · rw [e2 _ (by omega), e1 _ (by omega)]
    exact h0
theorem ownFrom_heap {β : Type} {B g : Nat} (f : β → Obj) (hgB : g < B) : OwnFrom B (fun (s : β) W => W.heap[g]? = some (f s)) :=
  fun s A C row hs hg hr => (hg.block g (Array.getElem?_eq_some_iff.1 hs).1 fun e => by have := (hr g e.symm).1; omega).trans hs
theorem four_heap (w : World) (o0 o1 o2 o3 : Obj) : ((((w.alloc o0).alloc o1).alloc o2).alloc o3).heap[w.heap.size]? = some o0 ∧ ((((w.alloc o0).alloc o1).alloc o2).alloc o3).heap[w.heap.size + 1]? = some o1 ∧ ((((w.alloc o0).alloc o1).alloc o2).alloc o3).heap[w.heap.size + 2]? = some o2 ∧ Below w.heap.size w ((((w.alloc o0).alloc o1).alloc o2).alloc o3) := by
  have h := three_heap w o0 o1 o2
  have hs : (((w.alloc o0).alloc o1).alloc o2).heap.size = w.heap.size + 1 + 1 + 1 := by simp
  refine ⟨(Below.heap_alloc _ _ _ (by omega)).trans h.1, (Below.heap_alloc _ _ _ (by omega)).trans h.2.1, (Below.heap_alloc _ _ _ (by omega)).trans h.2.2.1, h.2.2.2.alloc (by omega) _⟩
set_option maxRecDepth 100000 in
set_option maxHeartbeats 2000000 in
theorem five_in (R : Nat) (hR : R < 16777216) (h5 : (pl R).length = 5) (w : World) (hT : TabB w) :
    CallsIn Fence.wide 6 Tryz.prog 213 #[.int .u32 R] w fun e w' => e = .returned (.agg (VL (plI R))) ∧ Below w.heap.size w w' := by
  obtain ⟨ys, hxs⟩ := plF_ex R
  have HV := Lib.hid hxs
  have hyl : ys.length = 5 := by have := congrArg List.length hxs; rw [List.length_map, h5] at this; exact this
  have hvi : plI R = fvI ys := by
    rw [fvI_all ys hyl]
    unfold plI
    rw [← hxs, List.map_map]
    rfl
  rw [hvi]
  clear hvi
  refine callsIn_of_wp_marks Tryz.func213 rfl trivial ?_ rfl
  simp only [Tryz.ntmps213, List.size_toArray, List.length_cons, List.length_nil, Nat.reduceAdd, Nat.reduceSub, Array.replicate_succ, Array.replicate_zero, List.push_toArray, List.append_toArray, List.nil_append, List.cons_append]
  gi_wp2_with (refine ⟨trivial, ?_⟩; gi_at_call 183; refine (places_in _ _ _).mono ?_; rintro e w' ⟨rfl, rfl⟩)
  have H4 := four_heap w (.cells (VL z5) 199) (.cells (VL z5) 199) (.cells (VL [0]) 3) (.cells #[.int .u32 R] 55)
  have hb := Boxed.new (((w.alloc (.cells (VL z5) 199)).alloc (.cells (VL z5) 199)).alloc (.cells (VL [0]) 3)) 55 (.int .u32 R)
  simp only [World.size_alloc] at hb
  refine wpIn_rangeFunc_ownF rfl (by omega) (gf := 220) (lb := #[.pointer (some ⟨w.heap.size + 1 + 1 + 1, 0, none⟩)]) rfl trivial (enters_of Tryz.func220 (by kernel_rfl) rfl)
    (places_stops 5 (by omega) (w.heap.size + 1 + 1 + 1) w.heap.size R hR ys hxs _ (by simp) (by simp; omega) hT.lt hb.cell (hT.below H4.2.2.2 hT.lt)) belowK_t (belowK_b (by simp; omega)) (Below.refl _ _) (fun _ => rfl)
    (fun pre W => ((W.heap[w.heap.size + 2]? = some (.cells (VL [((pre.length : Nat) : Int)]) 3 (0, 0)) ∧ W.heap[w.heap.size + 1]? = some (.cells (VL (fvI pre)) 199 (0, 0))) ∧ W.heap[w.heap.size]? = some (.cells (VL z5) 199 (0, 0))) ∧ Below w.heap.size w W)
    (fun _ _ _ => False)
    ((((ownFrom_heap (fun (pre : List (Fin 24)) => .cells (VL [((pre.length : Nat) : Int)]) 3 (0, 0)) (by simp)).and (ownFrom_heap (fun pre => .cells (VL (fvI pre)) 199 (0, 0)) (by simp <;> omega))).and (ownFrom_heap (fun _ => .cells (VL z5) 199 (0, 0)) (by simp <;> omega))).and (ownFrom_below (Nat.le_refl _) (by simp; omega)))
    (fun _ _ _ _ _ hs _ _ => hs)
    ⟨⟨⟨H4.2.2.1, H4.2.1⟩, H4.1⟩, H4.2.2.2⟩
    (fun x => { tmps := #[.int .u32 R, undef, .pointer (some ⟨w.heap.size, 0, none⟩), .pointer (some ⟨w.heap.size + 1, 0, none⟩), .pointer (some ⟨w.heap.size + 1 + 1, 0, none⟩), .int .i64 (x.val : Nat), .int .u32 R, .func (.func 220) #[] #[.pointer (some ⟨w.heap.size + 1 + 1 + 1, 0, none⟩)], .int .i64 (x.val : Nat), undef, undef, undef, undef, undef, undef], defers := [] }) ?assign ?body ?done ?stop
  case assign =>
    intro l x W K hK
    gi_wp2
    exact hK
  case body =>
    rintro l pre x W ⟨⟨⟨hi, hp⟩, h0⟩, hB⟩ hlt
    rw [hyl] at hlt
    have hci : W.cell? ⟨w.heap.size + 2, 0, none⟩ = some (.int .i64 ((pre.length : Nat) : Int)) := VL_at (j := 0) [((pre.length : Nat) : Int)] (by simp) hi
    have hfi : W.frozen? ⟨w.heap.size + 2, 0, none⟩ = false := Lib.frozen_of_heap hi _
    have hfp : W.frozen? ⟨w.heap.size + 1, pre.length, none⟩ = false := Lib.frozen_of_heap hp _
    have hcp := VL_at (j := pre.length) (fvI pre) (by rw [fvI_len pre (by omega)]; omega) hp
    have HST := Lib.hid (fun y => five_step (y := y) (j := pre.length) (x := ((x.val : Nat) : Int)) hB hi hp h0 (fvI_set pre x hlt))
    have hk0 : (0 : Int) ≤ ((pre.length : Nat) : Int) := by omega
    have hk1 : ((pre.length : Nat) : Int) < 5 := by omega
    have HL := Lib.hid (show (((pre ++ [x]).length : Nat) : Int) = ((pre.length : Nat) : Int) + 1 by simp)
    clear hi hp h0
    generalize (fvI pre).getD pre.length 0 = z at *
    gi_wp2
    rw [← HL.out]
    exact HST.out _
  case done =>
    rintro D zs W hD rfl ⟨⟨⟨hi, hp⟩, h0⟩, hB⟩ hK
    have HI := Lib.hid (fvInfoL (fvI zs) (fvI_len zs (by omega)))
    have HA := Lib.hid (VL_all (fvI zs))
    have hsz : (VL z5).size = (VL (fvI zs)).size := by rw [VL_size, VL_size, fvI_len zs (by omega)]; rfl
    have HS := Lib.hid hsz
    have hD' : D ≠ w.heap.size := by simp at hD; omega
    clear hsz hi hyl hxs
    have HP := Lib.hid hp
    have H0 := Lib.hid h0
    have HB := Lib.hid hB
    have HK := Lib.hid hK
    clear hp h0 hB hK
    generalize hV : VL (fvI zs) = V at *
    refine ‹∀ (a : Act) (w : World), _ → _› _ _ ?_
    refine wpIn_wide.2 ?_
    go_wp2_with (first
      | (refine wpList_load_row rfl 199 _ rfl (w.heap.size + 1) rfl 199 V (0, 0) _ HP.out Tryz.underlying199 rfl HI.out ?_)
      | (refine wpList_store_row rfl 199 _ _ rfl w.heap.size V rfl rfl 199 (VL z5) H0.out HI.out HS.out HA.out ?_))
    have hK2 : (W.setRow w.heap.size V).heap[D]? = some (.deferred (some [])) := (setRow_other _ _ _ _ hD').trans HK.out
    refine ⟨by simp, .inl ⟨_, _, rfl, run_takeDeferred hK2, ?_⟩⟩
    have hlt0 : w.heap.size < (W.setRow w.heap.size V).heap.size := (Array.getElem?_eq_some_iff.1 (setRow_heap _ _ _ V _ _ H0.out)).1
    have hb3 := ((grownBy_putObj' (W.setRow w.heap.size V) D (.deferred none)).block w.heap.size hlt0 (fun e => hD' (by cases e; rfl))).trans (setRow_heap _ _ _ V _ _ H0.out)
    refine ⟨_, results_c rfl rfl (hb3 : Blk _ _ _ _) Tryz.underlying199 rfl HI.out, by rw [hV], ?_⟩
    exact (bel_row HB.out (Nat.le_refl _)).trans (belowK_b (w := w) (Nat.le_refl _) _ D _ _ (by simp at hD; omega) hK2 rfl rfl)
  case stop =>
    rintro D c pre W _ _ h _
    exact h.elim
theorem five_calls (R : Nat) (hR : R < 16777216) (h5 : (pl R).length = 5) (w : World) (hT : TabB w) :
    Calls Tryz.prog 213 #[.int .u32 R] w fun e w' => e = .returned (.agg (VL (plI R))) ∧ Below w.heap.size w w' :=
  callsIn_wide.1 (five_in R hR h5 w hT)
end Go.Proofs.YtcfhfllcdliaoaaGreatDoor
/- The parts of a word with five places, of the program: an iterator. -/
namespace Go.Proofs.YtcfhfllcdliaoaaGreatDoor
open Go.RowKit Go.Shelf
attribute [local go_sem] Oper.semAt_some
set_option linter.unusedVariables false
attribute [local irreducible] cN syn

/-- A part with five places that has all of h. -/
def GoodP (o h p : Nat) : Prop := p &&& o = p ∧ p &&& h = h ∧ (pl p).length = 5
def Pt (o h : Nat) : Type := {p : Nat // GoodP o h p}
def encP {o h : Nat} (x : Pt o h) : Array Value := #[.int .u32 ((x.val : Nat) : Int)]
/-- All are there. -/
def AllP (o h : Nat) (ys : List (Pt o h)) : Prop := ∀ p, GoodP o h p → p ∈ ys.map fun x => x.val
def FromP (o h V : Nat) (ys : List (Pt o h)) : Prop := ys.length + V ≤ 16777216 ∧ ∀ p, GoodP o h p → V < p → p ∈ ys.map fun x => x.val
theorem andI_natP (a b : Nat) : andI (a : Int) (b : Int) = ((a &&& b : Nat) : Int) := by
  unfold andI
  rw [Int.toNat_natCast, Int.toNat_natCast]
theorem good_not0 (o h : Nat) : ¬ GoodP o h 0 := fun g => by
  have := g.2.2
  rw [pl_zero] at this
  simp at this
theorem from_all {o h : Nat} {ys : List (Pt o h)} (hf : FromP o h 0 ys) : AllP o h ys := fun p hp => by
  by_cases h0 : p = 0
  · subst h0; exact absurd hp (good_not0 o h)
  · exact hf.2 p hp (by omega)
theorem from_next {o h V : Nat} {ys : List (Pt o h)} (hV : V &&& o = V) (h0 : V ≠ 0) (hf : FromP o h V ys) (hn : ¬ GoodP o h V) : FromP o h ((V - 1) &&& o) ys := by
  have hl := next_lt V o h0
  refine ⟨by have := hf.1; omega, fun p hp hlt => ?_⟩
  by_cases e : p = V
  · subst e; exact absurd hp hn
  · by_cases e2 : V < p
    · exact hf.2 p hp e2
    · have := next_part V o p hV hp.1 (by omega)
      omega
theorem from_push {o h V : Nat} {ys : List (Pt o h)} (hV : V &&& o = V) (h0 : V ≠ 0) (hf : FromP o h V ys) (x : Pt o h) (hx : x.val = V) : FromP o h ((V - 1) &&& o) (ys ++ [x]) := by
  have hl := next_lt V o h0
  refine ⟨by have := hf.1; simp; omega, fun p hp hlt => ?_⟩
  rw [List.map_append, List.mem_append]
  by_cases e : p = V
  · exact .inr (by simp [e, hx])
  · by_cases e2 : V < p
    · exact .inl (hf.2 p hp e2)
    · have := next_part V o p hV hp.1 (by omega)
      omega
theorem quietK_left {P : Program} {f : FuncId} {args : Array Value} {w : World} {n : Nat} {v : Value}
    (h : Calls P f args (w.drewN n) fun e w' => e = .returned v ∧ ∃ k, w' = (w.drewN n).drewN k) : Calls P f args (w.drewN n) fun e w'' => e = .returned v ∧ ∃ m, w'' = w.drewN m :=
  h.mono fun _ _ ⟨he, k, hm⟩ => ⟨he, n + k, by rw [hm, World.drewN_drewN]⟩
theorem quietK_add_left {P : Program} {f : FuncId} {args : Array Value} {w : World} {a n : Nat} {v : Value}
    (h : Calls P f args (w.drewN (a + n)) fun e w' => e = .returned v ∧ ∃ k, w' = (w.drewN (a + n)).drewN k) :
    Calls P f args (w.drewN (a + n)) fun e w'' => e = .returned v ∧ ∃ m, w'' = w.drewN (a + m) :=
  h.mono fun _ _ ⟨he, k, hm⟩ => ⟨he, n + k, by rw [hm, World.drewN_drewN, Nat.add_assoc]⟩
theorem quietL_ {P : Program} {f : FuncId} {args : Array Value} {w : World} {n : Nat} {v : Value}
    (h : Calls P f args (w.drewN n) fun e w' => e = .returned v ∧ w.drewN n = w') : Calls P f args (w.drewN n) fun e w'' => e = .returned v ∧ ∃ m, w'' = w.drewN m :=
  h.mono fun _ _ ⟨he, hm⟩ => ⟨he, n, hm.symm⟩
theorem quietAddL_ {P : Program} {f : FuncId} {args : Array Value} {w : World} {a n : Nat} {v : Value}
    (h : Calls P f args (w.drewN (a + n)) fun e w' => e = .returned v ∧ w.drewN (a + n) = w') :
    Calls P f args (w.drewN (a + n)) fun e w'' => e = .returned v ∧ ∃ m, w'' = w.drewN (a + m) :=
  h.mono fun _ _ ⟨he, hm⟩ => ⟨he, n, hm.symm⟩
def ppW (o h : Int) (w : World) : World := ((w.alloc (.cells #[.int .u32 o] 55)).alloc (.cells #[.int .u32 h] 55)).alloc (.cells #[.int .i64 5] 3)
set_option maxHeartbeats 1000000 in
theorem partsOver_calls (o h : Int) (w : World) :
    Calls Tryz.prog 212 #[.int .u32 o, .int .u32 h, .int .i64 5] w fun e w' => e = .returned (.func (.func 234) #[] #[.pointer (some ⟨w.heap.size, 0, none⟩), .pointer (some ⟨w.heap.size + 2, 0, none⟩), .pointer (some ⟨w.heap.size + 1, 0, none⟩)]) ∧ w' = ppW o h w := by
  go_enter Tryz.func212, Tryz.ntmps212
  go_wp2
  go_ret
  exact ⟨rfl, rfl⟩
set_option maxRecDepth 100000 in
set_option maxHeartbeats 2000000 in
theorem parts1_in (n : Nat) (hn : 1 ≤ n) (l B1 B2 B3 lo hi : Nat) (O H : Nat) (hO : O < 16777216) (hH : H < 16777216) (J Jx : List (Pt O H) → World → Prop)
    (w : World) (hJa : AbidesFrom w.heap.size J)
    (hY : ∀ pre x W, J pre W → pre.length < 16777216 → YieldAt Fence.wide (n - 1) Tryz.prog l (encP x) W fun e W' =>
      (e = .returned (.bool true) ∧ J (pre ++ [x]) W' ∧ KeepsIn lo hi W W') ∨ (e = .returned (.bool false) ∧ Jx (pre ++ [x]) W'))
    (h1 : w.cell? ⟨B1, 0, none⟩ = some (.int .u32 O)) (h2 : w.cell? ⟨B2, 0, none⟩ = some (.int .i64 5)) (h3 : w.cell? ⟨B3, 0, none⟩ = some (.int .u32 H)) (hB1 : lo ≤ B1 ∧ B1 < hi) (hB2 : lo ≤ B2 ∧ B2 < hi) (hB3 : lo ≤ B3 ∧ B3 < hi) (h0 : J [] w) :
    CallsIn Fence.wide n Tryz.prog 234 #[.func (.yield l) #[] #[], .pointer (some ⟨B1, 0, none⟩), .pointer (some ⟨B2, 0, none⟩), .pointer (some ⟨B3, 0, none⟩)] w fun e W' => (∃ v, e = .returned v) ∧
      ((∃ ys, AllP O H ys ∧ J ys W') ∨ (∃ pre, True ∧ Jx pre W')) := by
  have HJA := Lib.hid (fun pre W m (h : J pre W) => show J pre (W.drewN m) from hJa pre W (W.drewN m) none h ⟨by first | rfl | simp, by first | rfl | simp, by first | rfl | simp, by simp, fun i _ _ => rfl⟩ (fun r e => by cases e))
  refine callsIn_of_wp Tryz.func234 rfl trivial ?_ rfl
  simp only [Tryz.ntmps234, List.size_toArray, List.length_cons, List.length_nil, Nat.reduceAdd, Nat.reduceSub, Array.replicate_succ, Array.replicate_zero, List.push_toArray, List.append_toArray, List.nil_append, List.cons_append]
  gi_wp2
  gi_loopw [5] (fun p wr => ∃ (pre : List (Pt O H)) (V : Nat), p = .int .u32 V ∧ V < 16777216 ∧ Hid (V &&& O = V) ∧ Hid (FromP O H V pre) ∧ wr.cell? ⟨B1, 0, none⟩ = some (.int .u32 O) ∧ wr.cell? ⟨B2, 0, none⟩ = some (.int .i64 5) ∧ wr.cell? ⟨B3, 0, none⟩ = some (.int .u32 H) ∧ Hid (J pre wr))
    (fun p wr => (intOf p).toNat)
  case atStart =>
    exact ⟨[], O, rfl, hO, Lib.hid (Nat.and_self O), Lib.hid ⟨by simp; omega, fun p hp hlt => by have := hp.1; have h4 : p &&& O ≤ O := Nat.and_le_right; omega⟩, h1, h2, h3, Lib.hid h0⟩
  case round =>
    obtain ⟨pre, V, rfl, hV, hVO, hF, c1, c2, c3, hJs⟩ := hrel
    have hmx : Tryz.prog.follows .mixedOrders = true := by kernel_rfl
    by_cases hz : V = 0
    · subst hz
      gi_wp2
      go_end0
      exact ⟨⟨_, rfl⟩, .inl ⟨pre, from_all hF.out, hJs.out⟩⟩
    · have hz1 : ((V : Int) != 0) = true := by simp; omega
      have hz2 : ((V : Int) == 0) = false := by simp; omega
      have HZ := Lib.hid hz
      have hnl := next_lt V O hz
      have hw := wt_plI (V : Int) (by omega)
      rw [Int.toNat_natCast, plI, List.length_map] at hw
      have HM := Lib.hid (fun W => word_meet ((V : Int) - 1) (O : Int) W (by omega) (by omega) (by omega) (by omega))
      have hme : andI ((V : Int) - 1) (O : Int) = (((V - 1) &&& O : Nat) : Int) := by
        unfold andI
        rw [show ((V : Int) - 1).toNat = V - 1 by omega, Int.toNat_natCast]
      rw [hme] at HM
      have hsb : IntKind.u32.wrap ((V : Int) - 1) = (V : Int) - 1 := wrap_u32_in _ (by omega) (by omega)
      have HWW := Lib.hid (fun W => word_weight (V : Int) W (by omega) (by omega))
      clear hz hme
      by_cases h5 : wt (V : Int) = 5
      · have H5 := Lib.hid h5
        rw [h5] at HWW
        have hle : (5 : Int) = 5 := rfl
        cases hA : andI (V : Int) (H : Int) == (H : Int)
        · have HN := Lib.hid (from_next hVO.out HZ.out hF.out (fun g => by
            have : andI (V : Int) (H : Int) = (H : Int) := by rw [andI_natP, g.2.1]
            rw [this] at hA
            simp at hA))
          have HNS := Lib.hid (next_sub V O)
          have HH := Lib.hid (fun W => word_hasAll (V : Int) (H : Int) W ⟨by omega, by omega⟩ ⟨by omega, by omega⟩)
          rw [hA] at HH
          generalize (V - 1) &&& O = V' at *
          clear hw h5 hA
          gi_wp2
          refine wpIn_wide.2 ?_
          go_quiet ((first | (go_at_call 44; first | exact quietK_left (HWW.out _) | exact quietK_add_left (HWW.out _)) | (go_at_call 233; first | exact quietL_ (HH.out _) | exact quietAddL_ (HH.out _))))
          gi_wp2_with (refine ⟨trivial, ?_⟩; gi_at_call 75; refine (callsIn_wide.2 (HM.out _)).mono ?_; rintro e w' ⟨rfl, rfl⟩)
          go_roundw
          case rel => exact ⟨pre, V', rfl, by omega, HNS, HN, c1, c2, c3, Lib.hid (HJA.out _ _ _ hJs.out)⟩
          case measure => simp [intOf]; omega
        · have hgood : GoodP O H V := ⟨hVO.out, by
            have : andI (V : Int) (H : Int) = (H : Int) := by simpa using hA
            rw [andI_natP] at this
            omega, by omega⟩
          have HN := Lib.hid (from_push hVO.out HZ.out hF.out ⟨V, hgood⟩ rfl)
          have HNS := Lib.hid (next_sub V O)
          have HLEN := Lib.hid (show pre.length < 16777216 by have := hF.out.1; have := HZ.out; omega)
          obtain ⟨x, hxv, hx⟩ : ∃ x : Pt O H, x.val = V ∧ x = ⟨V, hgood⟩ := ⟨_, rfl, rfl⟩
          rw [← hx] at HN
          have HSTEP := Lib.hid (fun m => show CallsIn Fence.wide (n - 1) Tryz.prog 233 #[.int .u32 (V : Int), .int .u32 (H : Int)] (wr.drewN m) fun e V1 => e = .returned (.bool true) ∧ V1 = wr.drewN m ∧ ∃ fn tmps assign body, (Instr.yield l #[.int .u32 (V : Int)]).run Tryz.prog V1 = .ok (.round l fn tmps assign body) V1 ∧ Hid (RoundIn Fence.wide (n - 1) Tryz.prog l fn tmps assign body V1 fun e W' => ∃ b : Bool, e = .returned (.bool b) ∧ (b = true → J (pre ++ [x]) W' ∧ KeepsIn lo hi V1 W') ∧ (b = false → Jx (pre ++ [x]) W')) by
            refine (callsIn_wide.2 (word_hasAll (V : Int) (H : Int) _ ⟨by omega, by omega⟩ ⟨by omega, by omega⟩)).mono ?_
            rintro e V1 ⟨rfl, rfl⟩
            obtain ⟨fn, tmps, assign, body, hy, hR⟩ := hY pre x (wr.drewN m) (HJA.out _ _ _ hJs.out) HLEN.out
            unfold encP at hy
            rw [hxv] at hy
            refine ⟨by rw [hA], rfl, fn, tmps, assign, body, hy, Lib.hid (hR.mono ?_)⟩
            rintro e W' (⟨rfl, hj, hb⟩ | ⟨rfl, hj⟩)
            · exact ⟨true, rfl, fun _ => ⟨hj, hb⟩, fun h => by cases h⟩
            · exact ⟨false, rfl, fun h => (by cases h), fun _ => hj⟩)
          generalize (V - 1) &&& O = V' at *
          clear hw h5 hA hx
          gi_wp2
          gi_region_with_o (first
            | (refine ⟨trivial, ?_⟩; gi_at_call 44; refine (callsIn_wide.2 (HWW.out _)).mono ?_; rintro e w' ⟨rfl, kk, rfl⟩)
            | (refine ⟨trivial, ?_⟩; refine (HSTEP.out _).mono ?_; rintro e V1 ⟨rfl, rfl, fn, tmps, assign, body, hy, hR⟩)
            | (refine hR.out.mono ?_; rintro e V2 ⟨b, rfl, hT, hF⟩; have HTR := Lib.hid hT; have HFA := Lib.hid hF; clear hT hF))
          all_goals
            cases b
            · gi_wp2
              refine bodyPost_ret (results_none rfl _ _ _) rfl ?_
              first | exact ⟨⟨_, rfl⟩, .inr ⟨pre ++ [x], trivial, HFA.out (by first | trivial | rfl)⟩⟩ | exact ⟨⟨_, rfl⟩, .inr ⟨pre ++ [x], HFA.out (by first | trivial | rfl)⟩⟩
            · obtain ⟨hj3, hb3⟩ := HTR.out (by first | trivial | rfl)
              have d1 := (World.cell?_of_block (a := ⟨B1, 0, none⟩) (hb3.at_ B1 hB1.1 hB1.2)).trans c1
              have d2 := (World.cell?_of_block (a := ⟨B2, 0, none⟩) (hb3.at_ B2 hB2.1 hB2.2)).trans c2
              have d3 := (World.cell?_of_block (a := ⟨B3, 0, none⟩) (hb3.at_ B3 hB3.1 hB3.2)).trans c3
              have HJ3 := Lib.hid hj3
              clear hj3 hb3 HTR HFA c1 c2 c3
              gi_wp2_with (refine ⟨trivial, ?_⟩; gi_at_call 75; refine (callsIn_wide.2 (HM.out _)).mono ?_; rintro e w' ⟨rfl, rfl⟩)
              go_roundw
              case rel => exact ⟨pre ++ [x], V', rfl, by omega, HNS, HN, d1, d2, d3, HJ3⟩
              case measure => simp [intOf]; omega
      · have HN := Lib.hid (from_next hVO.out HZ.out hF.out (fun g => h5 (by rw [← hw, g.2.2]; rfl)))
        have HNS := Lib.hid (next_sub V O)
        have h51 : (wt (V : Int) == 5) = false := by simpa using h5
        generalize wt (V : Int) = q at *
        generalize (V - 1) &&& O = V' at *
        clear hw
        gi_wp2
        refine wpIn_wide.2 ?_
        go_quiet ((go_at_call 44; first | exact quietK_left (HWW.out _) | exact quietK_add_left (HWW.out _)))
        gi_wp2_with (refine ⟨trivial, ?_⟩; gi_at_call 75; refine (callsIn_wide.2 (HM.out _)).mono ?_; rintro e w' ⟨rfl, rfl⟩)
        go_roundw
        case rel => exact ⟨pre, V', rfl, by omega, HNS, HN, c1, c2, c3, Lib.hid (HJA.out _ _ _ hJs.out)⟩
        case measure => simp [intOf]; omega
/-- The iterator's contract: every part with five places that has all of h, each once more or less in a row that ends with all. -/
theorem parts_stops (n : Nat) (hn : 1 ≤ n) (O H : Nat) (hO : O < 16777216) (hH : H < 16777216) (w w1 : World) (hw : Below (ppW (O : Int) (H : Int) w).heap.size (ppW (O : Int) (H : Int) w) w1) :
    SeqStopsK Fence.wide n Tryz.prog 234 #[.pointer (some ⟨w.heap.size, 0, none⟩), .pointer (some ⟨w.heap.size + 2, 0, none⟩), .pointer (some ⟨w.heap.size + 1, 0, none⟩)] (encP (o := O) (h := H)) (KeepsIn w.heap.size (w.heap.size + 3)) (AllP O H) (fun _ => True) 16777216 w1 := by
  intro l J Jx W hW hJ hJx hY h0
  have h3 := three_heap w (.cells #[.int .u32 (O : Int)] 55) (.cells #[.int .u32 (H : Int)] 55) (.cells #[.int .i64 5] 3)
  have hs : (ppW (O : Int) (H : Int) w).heap.size = w.heap.size + 1 + 1 + 1 := by simp [ppW]
  have hc : ∀ g v t, (ppW (O : Int) (H : Int) w).heap[g]? = some (.cells #[v] t (0, 0)) → W.cell? ⟨g, 0, none⟩ = some v := fun g v t h => by
    have hlt := (Array.getElem?_eq_some_iff.1 h).1
    have e := (hw.trans (hW.mono hw.size)).cell (p := ⟨g, 0, none⟩) hlt
    rw [e]
    exact Boxed.cell (t := t) h
  exact parts1_in n hn l _ _ _ w.heap.size (w.heap.size + 3) O H hO hH J Jx W hJ hY (hc _ _ _ h3.1) (hc _ _ _ h3.2.2.1) (hc _ _ _ h3.2.1) (by omega) (by omega) (by omega) h0
end Go.Proofs.YtcfhfllcdliaoaaGreatDoor
/- The search for octads through five places, of the program: the map. -/
namespace Go.Proofs.YtcfhfllcdliaoaaGreatDoor
open Go.RowKit Go.Shelf
attribute [local go_sem] Oper.semAt_some
set_option linter.unusedVariables false
attribute [local irreducible] cN syn octS octF

theorem keyLits_fives {P : Program} {t e : TypeId} {n : Nat} (hu : P.underlying t = some (.array n e)) (he : P.underlying e = some (.int .i64)) (hc : P.cellsOf t = n) (hce : P.cellsOf e = 1) (xs : List Int) (hl : xs.length = n) (hwf : ∀ x ∈ xs, (Lit.int .i64 x).wf = true) (d : Nat) :
    P.keyLits (d + 2) t (xs.map (Value.int .i64)) = some (xs.map (Lit.int .i64)) := by
  have hm : ∀ (L : List Nat) (g : Nat → List Lit) (f : Nat → Option (List Lit)), (∀ a ∈ L, f a = some (g a)) → L.mapM f = some (L.map g) := by
    intro L g f hf
    induction L with
    | nil => rfl
    | cons a L ih =>
      rw [List.mapM_cons, hf a List.mem_cons_self, ih (fun b hb => hf b (List.mem_cons_of_mem _ hb))]
      rfl
  have h1 : ∀ i ∈ List.range n, P.keyLits (d + 1) e (((xs.map (Value.int .i64)).drop (i * P.cellsOf e)).take (P.cellsOf e)) = some [Lit.int .i64 (xs.getD i 0)] := by
    intro i hi
    have hi' : i < xs.length := by rw [hl]; exact List.mem_range.1 hi
    rw [hce, Nat.mul_one, List.drop_eq_getElem_cons (by simpa using hi'), List.take_succ_cons, List.take_zero]
    have hx : (xs.map (Value.int .i64))[i]'(by simpa using hi') = Value.int .i64 (xs.getD i 0) := by simp [hi']
    rw [hx]
    have hw : (Lit.int .i64 (xs.getD i 0)).wf = true := hwf _ (by rw [show xs.getD i 0 = xs[i] by simp [hi']]; exact List.getElem_mem hi')
    generalize xs.getD i 0 = x at *
    unfold Program.keyLits
    simp only [he]
    rw [if_pos ⟨trivial, hw⟩]
  have h2 : P.keyLits (d + 2) t (xs.map (Value.int .i64)) = (((List.range n).mapM fun i => P.keyLits (d + 1) e (((xs.map (Value.int .i64)).drop (i * P.cellsOf e)).take (P.cellsOf e))).map List.flatten) := by
    conv => lhs; unfold Program.keyLits
    simp only [hu]
    rw [if_pos (by simp [hl, hc])]
  have h3 : ∀ (L : List Nat) (g : Nat → Lit), (L.map fun i => [g i]).flatten = L.map g := by
    intro L g
    induction L with
    | nil => rfl
    | cons a L ih => simp [ih]
  rw [h2, hm _ (fun i => [Lit.int .i64 (xs.getD i 0)]) _ h1, Option.map_some, h3]
  congr 1
  refine List.ext_getElem (by simp [hl]) fun i a b => ?_
  have : i < xs.length := by simpa using b
  simp [this]
theorem octs_itQ (a b : Int) (wa : IsW a) (wb : IsW b) (k n₀ : Nat) (hk : k = 4096) (w : World) (hn : n₀ ≤ w.heap.size) (hg : tab2G < n₀) (hT : Tab2 w) :
    SeqIt Tryz.prog 232 #[.pointer (some ⟨w.heap.size, 0, none⟩), .pointer (some ⟨w.heap.size + 1, 0, none⟩)] (encO (a := a) (b := b)) 10 (KpOf n₀ w.heap.size (w.heap.size + 2)) (fun ys => ys.map (fun x => x.val) = (octF k).filter (oC a b)) (fun _ => True) 4096 (owW a b w) := by
  have hs := owW_size a b w
  have hc := owW_cells a b w
  have hb := owW_below a b w
  have hT2 := hT.below hb hT.lt
  generalize owW a b w = W at *
  exact octads_it a b wa wb k n₀ w.heap.size (w.heap.size + 2) w.heap.size (w.heap.size + 1) hk W (by omega) (by omega) (Nat.le_refl _) (by omega) (by omega) (by omega) (by omega) (by omega) hg hc.1 hc.2 hT2
def kyF (T : Nat) : Lit := .string (keyBytes ((plI T).map (Lit.int .i64)))
theorem five_law : Maps.Keyed Tryz.prog 199 := Maps.Keyed.of_law (deep_law_laid (m := 2) (by kernel_rfl) (by decide) (by decide +kernel) (by kernel_rfl) (by kernel_rfl))
theorem five_key (T : Nat) (h5 : (pl T).length = 5) : keyOf Tryz.prog 199 (.agg (VL (plI T))) = some (kyF T) := by
  have hl : (plI T).length = 5 := by unfold plI; rw [List.length_map, h5]
  have hwf : ∀ x ∈ plI T, (Lit.int .i64 x).wf = true := fun x hx => by
    obtain ⟨y, hy, rfl⟩ := List.mem_map.1 hx
    have := ((pl_mem T y).1 hy).1
    exact WalkArith.wf_i64 (by omega)
  have hk := keyLits_fives (P := Tryz.prog) Tryz.underlying199 Tryz.underlying3 (by kernel_rfl) (by kernel_rfl) (plI T) hl hwf (Tryz.prog.types.size - 1)
  have hs : Tryz.prog.types.size - 1 + 2 = Tryz.prog.types.size + 1 := by
    have : 1 ≤ Tryz.prog.types.size := by decide +kernel
    omega
  rw [hs] at hk
  unfold keyOf
  simp only [Tryz.underlying199]
  have h1 : Tryz.prog.keyType 199 = true := by kernel_rfl
  have h2 : (Value.agg (VL (plI T))).formed Tryz.prog 199 = true := by
    have hc : Tryz.prog.cellsOf 199 = 5 := by kernel_rfl
    simp only [Value.formed, Tryz.underlying199, hc, VL_size, hl]
    decide
  rw [h1, h2]
  have e : (Value.agg (VL (plI T))).cells.toList = (plI T).map (Value.int .i64) := by simp [Value.cells, VL]
  rw [e, hk]
  rfl
theorem five_inj (p T : Nat) (hp : p < 16777216) (hT : T < 16777216) (h1 : (pl p).length = 5) (h2 : (pl T).length = 5) (h : kyF p = kyF T) : p = T := by
  have e1 := five_key p h1
  have e2 := five_key T h2
  rw [h] at e1
  have e3 : Value.agg (VL (plI p)) = Value.agg (VL (plI T)) := five_law.inj e1 e2
  have e4 := Value.agg.inj e3
  have e5 := congrArg (fun (a : Array Value) => a.toList.map fun v => (intOf v).toNat) e4
  simp only [VL, List.map_map, Function.comp_def, intOf, plI, Int.toNat_natCast, List.map_id'] at e5
  apply Nat.eq_of_testBit_eq
  intro i
  by_cases hi : i < 24
  · have m1 := pl_mem p i
    have m2 := pl_mem T i
    rw [e5] at m1
    rw [Bool.eq_iff_iff]
    constructor
    · intro hb; exact (m2.1 (m1.2 ⟨hi, hb⟩)).2
    · intro hb; exact (m1.1 (m2.2 ⟨hi, hb⟩)).2
  · have hpow : (2 : Nat) ^ 24 ≤ 2 ^ i := Nat.pow_le_pow_right (by decide) (by omega)
    rw [Nat.testBit_lt_two_pow (by omega), Nat.testBit_lt_two_pow (by omega)]
/-- What the map tells of the five that is asked for. -/
def MapOk (bm T : Nat) (O : Int) (ok : Prop) (n : Nat) (W : World) : Prop :=
  ∃ D : DataW Unit, W.ownsMap Tryz.prog 199 (plainElem Tryz.prog 55) bm n D ∧ (ok → D.atKey (kyF T) (.lit (.int .u32 0)) = .lit (.int .u32 O))
theorem mapOk_own {β : Type} {B bm T : Nat} {O : Int} (f : β → Prop) (n : β → Nat) (h : bm < B) : OwnFrom B (fun (s : β) W => MapOk bm T O (f s) (n s) W) :=
  fun s A C row hs hg hr => by
    obtain ⟨D, h1, h2⟩ := hs
    exact ⟨D, h1.kept hg (fun e => by have := (hr bm e.symm).1; omega), h2⟩
theorem mapOk_below {bm T : Nat} {O : Int} {ok : Prop} {n : Nat} {A C : World} (h : MapOk bm T O ok n A) (hb : Below A.heap.size A C) : MapOk bm T O ok n C := by
  obtain ⟨D, h1, h2⟩ := h
  exact ⟨D, h1.kept (row := none) ⟨hb.os, hb.tape, hb.output, hb.size, fun i hi _ => hb.block i hi⟩ (by simp), h2⟩
theorem own_grownQ {β : Type} {B bm : Nat} {V : World} (h1 : V.heap.size ≤ B) : OwnFrom B (fun (_ : β) W => V.grownBy W (some bm)) :=
  fun s A C row hs hg hr => ⟨hg.os.trans hs.os, hg.tape.trans hs.tape, hg.output.trans hs.output, Nat.le_trans hs.size hg.size, fun i hi hne => (hg.block i (Nat.lt_of_lt_of_le hi hs.size) (fun e => by have := (hr i e.symm).1; omega)).trans (hs.block i hi hne)⟩
set_option maxRecDepth 100000 in
set_option maxHeartbeats 4000000 in
theorem search_in (H : Nat) (hH : H < 16777216) (T : Nat) (hT : T < 16777216) (h5 : (pl T).length = 5) (hTH : T &&& H = H) (OT : Int) (hU : ∀ x : Oc (H : Int) 0, andI x.val (T : Int) = (T : Int) → x.val = OT) (w : World) (hTb : TabB w) (hT2 : Tab2 w) (k : Nat) (hk : k = 4096) :
    CallsIn Fence.wide 6 Tryz.prog 178 #[.int .u32 H] w fun e w' => e = .returned (.func (.func 214) #[] #[.pointer (some ⟨w.heap.size + 2, 0, none⟩)]) ∧ w'.heap[w.heap.size + 2]? = some (.cells #[.map (some (w.heap.size + 1))] 195 (0, 0)) ∧ (∃ n, MapOk (w.heap.size + 1) T OT (∃ x : Oc (H : Int) 0, andI x.val (T : Int) = (T : Int)) n w') ∧ Below w.heap.size w w' := by
  have hmm := @run_makeMap Tryz.prog
  have wH : IsW (H : Int) := ⟨by omega, by omega⟩
  have w0' : IsW 0 := ⟨by omega, by omega⟩
  refine callsIn_of_wp_marks Tryz.func178 rfl trivial ?_ rfl
  simp only [Tryz.ntmps178, List.size_toArray, List.length_cons, List.length_nil, Nat.reduceAdd, Nat.reduceSub, Array.replicate_succ, Array.replicate_zero, List.push_toArray, List.append_toArray, List.nil_append, List.cons_append]
  gi_wp2_with (refine ⟨trivial, ?_⟩; gi_at_call 211; refine (callsIn_wide.2 (octadsWith_calls _ _ _)).mono ?_; rintro e w' ⟨rfl, rfl⟩)
  have h3 := three_heap w (.cells #[.int .u32 (H : Int)] 55) (.map #[] 0) (.cells #[.map (some (w.heap.size + 1))] 195)
  have hsz : (((w.alloc (.cells #[.int .u32 (H : Int)] 55)).alloc (.map #[] 0)).alloc (.cells #[.map (some (w.heap.size + 1))] 195)).heap.size = w.heap.size + 3 := by simp
  have hmk : MapOk (w.heap.size + 1) T OT False 0 (((w.alloc (.cells #[.int .u32 (H : Int)] 55)).alloc (.map #[] 0)).alloc (.cells #[.map (some (w.heap.size + 1))] 195)) := by
    have h := World.ownsMap_made (H := Unit) (w.alloc (.cells #[.int .u32 (H : Int)] 55)) Tryz.prog 199 (plainElem Tryz.prog 55)
    rw [World.size_alloc] at h
    exact ⟨_, h.alloc _, fun h => h.elim⟩
  generalize ((w.alloc (.cells #[.int .u32 (H : Int)] 55)).alloc (.map #[] 0)).alloc (.cells #[.map (some (w.heap.size + 1))] 195) = w2 at *
  have hT22 : Tab2 w2 := hT2.below h3.2.2.2 hT2.lt
  have hs4 := owW_size (H : Int) 0 w2
  have hcb := owW_below (H : Int) 0 w2
  have hit := octs_itQ (H : Int) 0 wH w0' k w.heap.size hk w2 (by omega) hT2.lt hT22
  rw [hsz] at hit hs4
  have e0 := (hcb.block w.heap.size (by omega)).trans h3.1
  have e2 := (hcb.block (w.heap.size + 2) (by omega)).trans h3.2.2.1
  have hB4 : Below w.heap.size w (owW (H : Int) 0 w2) := h3.2.2.2.trans (hcb.mono (by omega))
  have hm4 := mapOk_below hmk hcb
  clear h3 hmk hcb
  generalize owW (H : Int) 0 w2 = w4 at *
  refine wp_range_itR (gf := 232) (lb := #[.pointer (some ⟨w.heap.size + 3, 0, none⟩), .pointer (some ⟨w.heap.size + 3 + 1, 0, none⟩)]) rfl (enters_of Tryz.func232 (by kernel_rfl) rfl) hit (fun h k => KpOf.trans h k) (fun V j o hj hjl => KpOf.put V j o (by omega) (by omega) hjl) (Below.refl _ _) (fun _ => rfl)
    (fun (pre : List (Oc (H : Int) 0)) V => ((MapOk (w.heap.size + 1) T OT (∃ x ∈ pre, andI x.val (T : Int) = (T : Int)) (pre.length * 16777216) V ∧ V.heap[w.heap.size + 2]? = some (.cells #[.map (some (w.heap.size + 1))] 195 (0, 0))) ∧ V.heap[w.heap.size]? = some (.cells #[.int .u32 (H : Int)] 55 (0, 0))) ∧ Below w.heap.size w V)
    (fun _ _ _ => False)
    ((((mapOk_own _ _ (by omega)).and (ownFrom_heap (fun _ => .cells #[.map (some (w.heap.size + 1))] 195 (0, 0)) (by omega))).and (ownFrom_heap (fun _ => .cells #[.int .u32 (H : Int)] 55 (0, 0)) (by omega))).and (ownFrom_below (Nat.le_refl _) (by omega)))
    (fun _ _ _ _ _ hs _ _ => hs)
    ⟨⟨⟨by obtain ⟨D, m1, _⟩ := hm4; exact ⟨D, m1.mono (by omega), fun h => by obtain ⟨x, hx, _⟩ := h; cases hx⟩, e2⟩, e0⟩, hB4⟩
    (fun x a' V => ∃ g, a' = { tmps := #[.int .u32 H, .pointer (some ⟨w.heap.size, 0, none⟩), .nilFunc, .pointer (some ⟨w.heap.size + 1 + 1, 0, none⟩), .pointer (some ⟨g, 0, none⟩), undef, .map (some (w.heap.size + 1)), .int .u32 H, .func (.func 232) #[] #[.pointer (some ⟨w.heap.size + 1 + 1 + 1, 0, none⟩), .pointer (some ⟨w.heap.size + 1 + 1 + 1 + 1, 0, none⟩)], .int .u32 x.val, undef, undef, undef, undef, undef, undef, undef, undef, undef], defers := [] } ∧ V.heap[g]? = some (.cells #[.int .u32 x.val] 55 (0, 0)))
    ?hax (fun A B h1 h2 => KpOf.of_below h2 (by omega) (by omega)) ?assign ?body ?done ?stop
  case hax =>
    rintro x a' s A C row ⟨g, ha, hg⟩ hgr hr
    refine ⟨g, ha, (hgr.block g (Array.getElem?_eq_some_iff.1 hg).1 fun e => ?_).trans hg⟩
    obtain ⟨_, o, ho, hc⟩ := hr g e.symm
    rw [hg] at ho
    cases ho
    cases hc
  case assign =>
    intro l pre x V K hi hK
    unfold encO
    gi_wp2
    exact hK _ _ ((Below.refl _ _).alloc (Nat.le_refl _) _) ⟨_, rfl, heap_alloc_new V _⟩
  case body =>
    rintro pre x a' V ⟨⟨⟨hm, h2⟩, h0⟩, hB⟩ ⟨g, rfl, hg⟩ hlen hsK hrec
    obtain ⟨r, hr⟩ := hrec
    have hx := x.property.1.rng
    obtain ⟨O, hOx⟩ : ∃ O : Nat, x.val = (O : Int) := ⟨x.val.toNat, by omega⟩
    have hO : O < 16777216 := by omega
    have cg : V.cell? ⟨g, 0, none⟩ = some (.int .u32 (O : Int)) := by rw [← hOx]; exact Boxed.cell (t := 55) hg
    have c0 : V.cell? ⟨w.heap.size, 0, none⟩ = some (.int .u32 (H : Int)) := Boxed.cell (t := 55) h0
    have hUx := hU x
    have hpl : ∀ N : Nat, pre.length * N + N = (pre ++ [x]).length * N := fun N => by rw [List.length_append, List.length_singleton, Nat.add_mul, Nat.one_mul]
    have hex : ∀ (Q : Prop), ((∃ y ∈ pre ++ [x], andI y.val (T : Int) = (T : Int)) → Q) ↔ (((∃ y ∈ pre, andI y.val (T : Int) = (T : Int)) ∨ andI x.val (T : Int) = (T : Int)) → Q) := fun Q => by
      constructor
      · rintro h (⟨y, hy, e⟩ | e)
        · exact h ⟨y, List.mem_append_left _ hy, e⟩
        · exact h ⟨x, List.mem_append_right _ List.mem_cons_self, e⟩
      · rintro h ⟨y, hy, e⟩
        rcases List.mem_append.1 hy with hy | hy
        · exact h (.inl ⟨y, hy, e⟩)
        · rw [List.mem_singleton.1 hy] at e; exact h (.inr e)
    rw [hOx] at hUx hex hg
    have hTO : andI (O : Int) (T : Int) = (T : Int) → GoodP O H T := fun e => by
      rw [andI_natP] at e
      exact ⟨by rw [Nat.and_comm]; omega, hTH, h5⟩
    gi_wp2_with (refine ⟨trivial, ?_⟩; gi_at_call 212; refine (CallsIn.inRound _ (callsIn_wide.2 (partsOver_calls _ _ _))).mono ?_; rintro e w' ⟨rfl, rfl⟩)
    have hp3 : (ppW (O : Int) (H : Int) V).heap.size = V.heap.size + 3 := by simp [ppW]
    have hpb : Below V.heap.size V (ppW (O : Int) (H : Int) V) := (((Below.refl _ V).alloc (Nat.le_refl _) _).alloc (by simp) _).alloc (by simp; omega) _
    have hrlt : w4.heap.size + 1 < V.heap.size := (Array.getElem?_eq_some_iff.1 hr).1
    have hstop := parts_stops 5 (by omega) O H hO hH V (ppW (O : Int) (H : Int) V) (Below.refl _ _)
    have hr5 := (hpb.block (w4.heap.size + 1) hrlt).trans hr
    have hm5 := mapOk_below hm hpb
    have hg5 : V.grownBy (ppW (O : Int) (H : Int) V) (some (w.heap.size + 1)) := ⟨hpb.os, hpb.tape, hpb.output, hpb.size, fun i hi _ => hpb.block i hi⟩
    generalize ppW (O : Int) (H : Int) V = W5 at *
    refine wpIn_rangeFunc_ownN (l₀ := w4.heap.size + 1) rfl hr5 (by omega) (gf := 234) (lb := #[.pointer (some ⟨V.heap.size, 0, none⟩), .pointer (some ⟨V.heap.size + 2, 0, none⟩), .pointer (some ⟨V.heap.size + 1, 0, none⟩)]) rfl trivial (enters_of Tryz.func234 (by kernel_rfl) rfl)
      (SeqStopsK.inRound _ hstop) (fun h k => KeepsIn.trans h k) (fun W l o o' h1 h2 h3 h4 => KeepsIn.putObj W l o' (.inr (by omega))) (Below.refl _ _) (fun _ => rfl)
      (fun (pre2 : List (Pt O H)) W => (MapOk (w.heap.size + 1) T OT ((∃ y ∈ pre, andI y.val (T : Int) = (T : Int)) ∨ (∃ y ∈ pre2, y.val = T)) (pre.length * 16777216 + pre2.length) W ∧ pre2.length ≤ 16777216) ∧ V.grownBy W (some (w.heap.size + 1)))
      (fun _ _ _ => False)
      (((mapOk_own _ _ (by omega)).and (ownFrom_pure _ (fun (pre2 : List (Pt O H)) => pre2.length ≤ 16777216))).and (own_grownQ (by omega)))
      (fun _ _ _ _ _ hs _ _ => hs)
      ⟨⟨by obtain ⟨D, m1, m2⟩ := hm5; exact ⟨D, m1.mono (Nat.le_add_right _ _), fun h => m2 (by rcases h with h | ⟨y, hy, _⟩; exact h; cases hy)⟩, by simp⟩, hg5⟩
      (fun y a' _ => a' = { tmps := #[.int .u32 H, .pointer (some ⟨w.heap.size, 0, none⟩), .nilFunc, .pointer (some ⟨w.heap.size + 1 + 1, 0, none⟩), .pointer (some ⟨g, 0, none⟩), .int .u32 (y.val : Nat), .map (some (w.heap.size + 1)), .int .u32 H, .func (.func 232) #[] #[.pointer (some ⟨w.heap.size + 1 + 1 + 1, 0, none⟩), .pointer (some ⟨w.heap.size + 1 + 1 + 1 + 1, 0, none⟩)], .int .u32 O, .int .u32 O, .int .u32 H, .func (.func 234) #[] #[.pointer (some ⟨V.heap.size, 0, none⟩), .pointer (some ⟨V.heap.size + 2, 0, none⟩), .pointer (some ⟨V.heap.size + 1, 0, none⟩)], .int .u32 (y.val : Nat), undef, undef, undef, undef, undef], defers := [] })
      (fun y a' s A C row hs _ _ => hs) ?assign2 ?body2 ?done2 ?stop2
    case assign2 =>
      intro l pre2 y W K hi hK
      unfold encP
      gi_wp2
      exact hK _ _ (KeepsFrom.refl _ _) (KeepsIn.refl _ _ _) hi rfl
    case body2 =>
      rintro l pre2 y a' W hl hrec2 ⟨⟨hm2, hlen2⟩, hgr⟩ rfl hlt
      have hmx : Tryz.prog.follows .mixedOrders = true := by kernel_rfl
      have hn0 : w.heap.size + 2 < V.heap.size := (Array.getElem?_eq_some_iff.1 h2).1
      have hgl : g < V.heap.size := (Array.getElem?_eq_some_iff.1 hg).1
      have hgb : some g ≠ some (w.heap.size + 1) := fun e => by
        cases e
        obtain ⟨D, ⟨es, clock, hb, _⟩, _⟩ := hm
        rw [hb] at hg; cases hg
      have k2 := (hgr.block _ hn0 (by simp)).trans h2
      have kg := (hgr.block g hgl hgb).trans hg
      have hBW : Below w.heap.size V W := (Below.refl _ V).grown hgr (by omega) (fun k e => by cases e; omega)
      have hTW : TabB W := hTb.below (hB.trans hBW) hTb.lt
      have hsW := hgr.size
      have d2 : W.cell? ⟨w.heap.size + 2, 0, none⟩ = some (.map (some (w.heap.size + 1))) := Boxed.cell (t := 195) k2
      have dg : W.cell? ⟨g, 0, none⟩ = some (.int .u32 (O : Int)) := Boxed.cell (t := 55) kg
      obtain ⟨gp1, gp2, gp3⟩ := y.property
      obtain ⟨p, hpv⟩ : ∃ p, y.val = p := ⟨_, rfl⟩
      rw [hpv] at gp1 gp2 gp3 ⊢
      obtain ⟨lr, hlr⟩ := hrec2
      have hlW : l < W.heap.size := (Array.getElem?_eq_some_iff.1 hlr).1
      have hp : p < 16777216 := by
        have : p &&& O ≤ O := Nat.and_le_right
        omega
      have HFIVE := Lib.hid (fun m => show Calls Tryz.prog 213 #[.int .u32 (p : Int)] (W.drewN m) fun e w' => e = .returned (.agg (VL (plI p))) ∧ w'.cell? ⟨w.heap.size + 2, 0, none⟩ = some (.map (some (w.heap.size + 1))) ∧ w'.cell? ⟨g, 0, none⟩ = some (.int .u32 (O : Int)) ∧ ∃ w3, (Instr.mapUpdate 195 (.map (some (w.heap.size + 1))) (.agg (VL (plI p))) (.int .u32 (O : Int))).run Tryz.prog w' = .ok () w3 ∧ Hid (KeepsFrom W5.heap.size W w3 ∧ KeepsIn V.heap.size (V.heap.size + 3) W w3 ∧ (MapOk (w.heap.size + 1) T OT ((∃ y ∈ pre, andI y.val (T : Int) = (T : Int)) ∨ (∃ z ∈ pre2 ++ [y], z.val = T)) (pre.length * 16777216 + (pre2 ++ [y]).length) w3 ∧ (pre2 ++ [y]).length ≤ 16777216) ∧ V.grownBy w3 (some (w.heap.size + 1))) by
        refine (five_calls p hp gp3 (W.drewN m) (hTW.below (below_drewN (Below.refl _ W) m) hTW.lt)).mono ?_
        rintro e w' ⟨rfl, hb⟩
        have hb' : Below W.heap.size W w' := (below_drewN (Below.refl _ W) m).trans hb
        have hg1 : W.grownBy w' none := ⟨hb'.os, hb'.tape, hb'.output, hb'.size, fun i hi _ => hb'.block i hi⟩
        obtain ⟨D, m1, m2⟩ := mapOk_below hm2 hb'
        obtain ⟨w3, hrun, hown3, hgr3⟩ := m1.update five_law Tryz.underlying195 (by unfold maxLen; omega) (five_key p gp3) (plainElem_int Tryz.underlying55 (show (Lit.int .u32 (O : Int)).wf = true by simp [Lit.wf, IntKind.min, IntKind.max, IntKind.signed, IntKind.bits]; omega))
        refine ⟨rfl, (hb'.cell (p := ⟨w.heap.size + 2, 0, none⟩) (show w.heap.size + 2 < W.heap.size by omega)).trans d2, (hb'.cell (p := ⟨g, 0, none⟩) (show g < W.heap.size by omega)).trans dg, w3, hrun, Lib.hid ⟨?_, ?_, ⟨⟨D.put (kyF p) (.lit (.int .u32 (O : Int))), hown3.mono (by rw [List.length_append, List.length_singleton, Nat.add_assoc]; exact Nat.le_refl _), ?_⟩, by rw [List.length_append, List.length_singleton]; omega⟩, ?_⟩⟩
        · exact (KeepsFrom.of_grownBy hg1 (fun j e => by cases e)).trans (KeepsFrom.of_grownBy hgr3 (fun j e => by cases e; omega))
        · exact (KeepsIn.grown hg1 (by omega) (fun q e => by cases e)).trans (KeepsIn.grown hgr3 (by have := hg1.size; omega) (fun q e => by cases e; omega))
        · intro hh
          by_cases e : p = T
          · subst e
            rw [Maps.atKey_put_same (k := kyF p) m1.isMap (show WideAt.IsKeyLit (Lit.string _) from trivial)]
            have : andI (O : Int) (p : Int) = (p : Int) := by rw [andI_natP, Nat.and_comm, gp1]
            rw [hUx this]
          · rw [Maps.atKey_put_other (fun e2 => e (five_inj p T hp hT gp3 h5 e2.symm))]
            refine m2 ?_
            rcases hh with hh | ⟨z, hz, e2⟩
            · exact .inl hh
            · rcases List.mem_append.1 hz with hz | hz
              · exact .inr ⟨z, hz, e2⟩
              · have hz2 := List.mem_singleton.1 hz
                have e3 : y.val = T := (congrArg (fun (q : Pt O H) => q.val) hz2).symm.trans e2
                exact absurd (hpv.symm.trans e3) e
        · exact (own_grownQ (β := Unit) (Nat.le_refl _) () W w' none hgr hg1 (fun r e => by cases e)).trans hgr3)
      gi_wp2
      gi_region_with_o (refine ⟨trivial, ?_⟩; gi_at_call 213; refine (CallsIn.inRound l (CallsIn.inRound _ (callsIn_wide.2 (HFIVE.out _)))).mono ?_; rintro e w' ⟨rfl, f2, fg, w3, hrun, hpost⟩)
      all_goals
        gi_wp2
        have hq := hpost.out
        refine ⟨hq.1, hq.2.1, ?_⟩
        exact hq.2.2
    case done2 =>
      rintro ys W hall ⟨⟨hm2, hlen2⟩, hgr⟩
      gi_wp2
      have hn0 : w.heap.size + 2 < V.heap.size := (Array.getElem?_eq_some_iff.1 h2).1
      have hBW : Below w.heap.size V W := (Below.refl _ V).grown hgr (by omega) (fun k e => by cases e; omega)
      refine ⟨KeepsIn.grown hgr (by omega) (fun q e => by cases e; omega), ⟨hBW, KeepsIn.grown hgr (by omega) (fun q e => by cases e; omega)⟩, ⟨⟨?_, (hgr.block _ hn0 (by simp)).trans h2⟩, (hgr.block _ (by omega) (by simp)).trans h0⟩, hB.trans hBW⟩
      obtain ⟨D, m1, m2⟩ := hm2
      refine ⟨D, m1.mono (by rw [← hpl]; exact Nat.add_le_add_left hlen2 _), (hex _).2 fun h => m2 (h.imp id fun e => ?_)⟩
      obtain ⟨y, hy, e2⟩ := List.mem_map.1 (hall T (hTO e))
      exact ⟨y, hy, e2⟩
    case stop2 =>
      rintro c pre2 W _ h
      exact h.elim
  case done =>
    rintro D ys V hD hS ⟨⟨⟨hm, h2⟩, h0⟩, hB⟩ hK
    gi_wp2
    refine ⟨by simp, .inl ⟨_, _, rfl, run_takeDeferred hK, ?_⟩⟩
    refine ⟨_, results_tmp rfl _ _ _, rfl, (World.putObj_heap_other (by omega)).trans h2, ⟨ys.length * 16777216, ?_⟩, hB.trans (belowK_b (w := w) (Nat.le_refl _) V D _ _ (by omega) hK rfl rfl)⟩
    have hm' := (mapOk_own (β := Unit) (B := w.heap.size + 2) (bm := w.heap.size + 1) (T := T) (O := OT) (fun _ => ∃ x ∈ ys, andI x.val (T : Int) = (T : Int)) (fun _ => ys.length * 16777216) (by omega)).putObj (s := ()) (.deferred none) hm (by omega) hK rfl
    obtain ⟨D2, m1, m2⟩ := hm'
    refine ⟨D2, m1, fun hx => m2 ?_⟩
    obtain ⟨x, hx⟩ := hx
    have hmem : x.val ∈ ys.map fun x => x.val := by
      rw [hS, List.mem_filter]
      exact ⟨(octF_perm k hk).mem_iff.2 (oct_iff.2 x.property.1), x.property.2⟩
    obtain ⟨y, hy, e⟩ := List.mem_map.1 hmem
    exact ⟨y, hy, by rw [e]; exact hx⟩
  case stop =>
    rintro D c pre V _ _ h _
    exact h.elim
end Go.Proofs.YtcfhfllcdliaoaaGreatDoor
/- The octad through five places, of the program. -/

namespace Go.Proofs.YtcfhfllcdliaoaaGreatDoor
open Go.RowKit Go.Shelf
set_option linter.unusedVariables false
attribute [local irreducible] cN syn octS octF

theorem placesFromQ_yes (A : Option Addr) (c : Nat) (xs : List Int) (lo hi t : Int) (w : World) (ha : Rds w w.heap.size .i64 A xs) (hx : xs.length ≤ maxLen) (h1 : lo ≤ xs.length) (h2 : xs.length ≤ hi) (ht : wof xs = some t) :
    Calls Tryz.prog 177 #[.slice A xs.length c, .int .i64 lo, .int .i64 hi] w fun e w' => e = .returned (.tuple #[.int .u32 t, .bool true]) ∧ w = w' := by
  obtain ⟨⟨t0, t1⟩, _⟩ := wof_is ht
  have hx' := hx
  unfold maxLen at hx'
  have hc : IntKind.u32.wrap t = t := wrap_u32_in t t0 (by omega)
  have HS := Lib.hid (iWordOf_calls A c xs w ha hx)
  rw [ht] at HS
  clear ht ha
  go_enter Tryz.func177, Tryz.ntmps177
  go_wp2_with (go_at_call 210; refine HS.out.mono ?_; rintro e w' ⟨he, rfl⟩; simp only [resW] at he; subst he)
  go_ret2
  exact ⟨rfl, rfl⟩
theorem placesFromQ_no (A : Option Addr) (c : Nat) (xs : List Int) (lo hi : Int) (w : World) (ha : Rds w w.heap.size .i64 A xs) (hx : xs.length ≤ maxLen) (h : (xs.length : Int) < lo ∨ hi < xs.length ∨ wof xs = none) :
    Calls Tryz.prog 177 #[.slice A xs.length c, .int .i64 lo, .int .i64 hi] w fun e w' => e = .returned (.tuple #[.int .u32 0, .bool false]) ∧ w = w' := by
  have hx' := hx
  unfold maxLen at hx'
  by_cases h1 : (xs.length : Int) < lo
  · clear h
    go_enter Tryz.func177, Tryz.ntmps177
    go_wp2_with fail
    go_ret2
    exact ⟨rfl, rfl⟩
  by_cases h2 : hi < (xs.length : Int)
  · clear h
    go_enter Tryz.func177, Tryz.ntmps177
    go_wp2_with fail
    go_ret2
    exact ⟨rfl, rfl⟩
  have h3 : wof xs = none := by
    rcases h with h | h | h
    · exact absurd h h1
    · exact absurd h h2
    · exact h
  have HS := Lib.hid (iWordOf_calls A c xs w ha hx)
  rw [h3] at HS
  clear h h3 ha
  go_enter Tryz.func177, Tryz.ntmps177
  go_wp2_with (go_at_call 210; refine HS.out.mono ?_; rintro e w' ⟨he, rfl⟩; simp only [resW] at he; subst he)
  go_ret2
  exact ⟨rfl, rfl⟩
theorem zero_word (w : World) : (zeroValue 55).run Tryz.prog w = .ok (.int .u32 0) w := by kernel_rfl
set_option maxHeartbeats 1000000 in
theorem search1_calls (T : Nat) (hT : T < 16777216) (h5 : (pl T).length = 5) (OT : Int) (hO : 0 ≤ OT ∧ OT ≤ 16777215) (bx bm n : Nat) (ok : Prop) (hok : ok) (W : World) (hm : MapOk bm T OT ok n W) (hb : W.heap[bx]? = some (.cells #[.map (some bm)] 195 (0, 0))) (hTb : TabB W) :
    Calls Tryz.prog 214 #[.int .u32 T, .pointer (some ⟨bx, 0, none⟩)] W fun e w' => e = .returned (.int .u32 OT) ∧ Below W.heap.size W w' := by
  have hlt : bx < W.heap.size := (Array.getElem?_eq_some_iff.1 hb).1
  have d0 : W.cell? ⟨bx, 0, none⟩ = some (.map (some bm)) := Boxed.cell (t := 195) hb
  have HF := Lib.hid (fun m => show Calls Tryz.prog 213 #[.int .u32 (T : Int)] (W.drewN m) fun e w' => e = .returned (.agg (VL (plI T))) ∧ w'.cell? ⟨bx, 0, none⟩ = some (.map (some bm)) ∧ (Instr.lookup 195 (.map (some bm)) (.agg (VL (plI T))) false).run Tryz.prog w' = .ok (.int .u32 OT) w' ∧ Hid (Below W.heap.size W w') by
    refine (five_calls T hT h5 (W.drewN m) (hTb.below (below_drewN (Below.refl _ W) m) hTb.lt)).mono ?_
    rintro e w' ⟨rfl, hb0⟩
    have hb1 : Below W.heap.size W w' := (below_drewN (Below.refl _ W) m).trans hb0
    obtain ⟨D, m1, m2⟩ := mapOk_below hm hb1
    obtain ⟨c, hrun, hat, _⟩ := m1.lookup_int five_law Tryz.underlying195 Tryz.underlying55 (zero_word _) (five_key T h5)
    rw [m2 hok] at hat
    have hc : OT = c := by simpa using hat
    subst hc
    exact ⟨rfl, (hb1.cell (p := ⟨bx, 0, none⟩) hlt).trans d0, hrun, Lib.hid hb1⟩)
  clear hm hb
  go_enter Tryz.func214, Tryz.ntmps214
  go_wp2_with fail
  go_region_with (go_at_call 213; refine (HF.out _).mono ?_; rintro e w' ⟨rfl, f1, f2, f3⟩)
  all_goals
    go_wp2_with fail
    go_ret
    exact ⟨rfl, f3.out⟩
theorem search_calls (H : Nat) (hH : H < 16777216) (T : Nat) (hT : T < 16777216) (h5 : (pl T).length = 5) (hTH : T &&& H = H) (OT : Int) (hU : ∀ x : Oc (H : Int) 0, andI x.val (T : Int) = (T : Int) → x.val = OT) (w : World) (hTb : TabB w) (hT2 : Tab2 w) :
    Calls Tryz.prog 178 #[.int .u32 H] w fun e w' => e = .returned (.func (.func 214) #[] #[.pointer (some ⟨w.heap.size + 2, 0, none⟩)]) ∧ w'.heap[w.heap.size + 2]? = some (.cells #[.map (some (w.heap.size + 1))] 195 (0, 0)) ∧ (∃ n, MapOk (w.heap.size + 1) T OT (∃ x : Oc (H : Int) 0, andI x.val (T : Int) = (T : Int)) n w') ∧ Below w.heap.size w w' := by
  obtain ⟨k, hk⟩ : ∃ k, k = 4096 := ⟨_, rfl⟩
  exact callsIn_wide.1 (search_in H hH T hT h5 hTH OT hU w hTb hT2 k hk)
theorem first_sub (T n : Nat) (hT : T < 16777216) : T &&& firstW T n = firstW T n := by
  apply Nat.eq_of_testBit_eq
  intro i
  rw [Nat.testBit_and]
  rcases hb : (firstW T n).testBit i with _ | _
  · simp
  · have hi : i < 24 := by
      by_cases h : i < 24
      · exact h
      · have hlt := firstW_lt T n hT
        have hpow : (2 : Nat) ^ 24 ≤ 2 ^ i := Nat.pow_le_pow_right (by decide) (by omega)
        rw [Nat.testBit_lt_two_pow (by omega)] at hb
        cases hb
    have hm := (pl_mem (firstW T n) i).2 ⟨hi, hb⟩
    rw [pl_firstW T n hT] at hm
    rw [((pl_mem T i).1 (List.mem_of_mem_take hm)).2]
    rfl
set_option maxRecDepth 100000 in
set_option maxHeartbeats 2000000 in
theorem iOctadThrough_calls (A : Option Addr) (c : Nat) (xs : List Int) (w : World) (ha : Rds w w.heap.size .i64 A xs) (hx : xs.length ≤ maxLen) (hTb : TabB w) (hT2 : Tab2 w) :
    Calls Tryz.prog 126 #[.slice A xs.length c] w fun e w' => e = .returned (.tuple #[.int .i64 (oThrough xs).1, .bool (oThrough xs).2]) ∧ Below w.heap.size w w' := by
  by_cases h : xs.length = 5 ∧ ∃ t, wof xs = some t
  · obtain ⟨h5, t, ht⟩ := h
    have hP := placesFromQ_yes A c xs 5 5 t w ha hx (by omega) (by omega) ht
    obtain ⟨⟨t0, t1⟩, hw⟩ := wof_is ht
    rw [h5] at hw
    have h1 := oWith_five ⟨t0, t1⟩ hw
    have hth : oThrough xs = ((oWith t).getD 0 0, true) := by simp [oThrough, ht, h5]
    obtain ⟨OT, hOT⟩ : ∃ OT, oWith t = [OT] := by
      match hL : oWith t with
      | [] => rw [hL] at h1; cases h1
      | [o] => exact ⟨o, rfl⟩
      | _ :: _ :: _ => rw [hL] at h1; simp at h1
    rw [hth, hOT]
    have hmem : OT ∈ oWith t := by rw [hOT]; exact List.mem_cons_self
    obtain ⟨ho1, ho2⟩ := oWith_mem.1 hmem
    have hor := ho1.rng
    obtain ⟨T, rfl⟩ := Int.eq_ofNat_of_zero_le t0
    have hT : T < 16777216 := by omega
    have hpl : (pl T).length = 5 := by
      have := wt_plI (T : Int) t0
      rw [Int.toNat_natCast, plI, List.length_map] at this
      omega
    have hsub := first_sub T 3 hT
    have hH := firstW_lt T 3 hT
    have hF := word_first T 3 w hT (by omega)
    generalize firstW T 3 = H at *
    have hU : ∀ x : Oc (H : Int) 0, andI x.val (T : Int) = (T : Int) → x.val = OT := fun x e => by
      have : x.val ∈ oWith (T : Int) := oWith_mem.2 ⟨x.property.1, e⟩
      rw [hOT] at this
      exact List.mem_singleton.1 this
    have hex : ∃ x : Oc (H : Int) 0, andI x.val (T : Int) = (T : Int) := by
      refine ⟨⟨OT, ho1, ?_⟩, ho2⟩
      obtain ⟨O, rfl⟩ := Int.eq_ofNat_of_zero_le hor.1
      rw [andI_natP] at ho2
      have e1 : O &&& H = H := by
        have e2 : O &&& T = T := by omega
        rw [← hsub, ← Nat.and_assoc, e2]
      unfold oC
      rw [andI_natP, e1, show (0 : Int) = ((0 : Nat) : Int) from rfl, andI_natP, Nat.and_zero]
      simp
    have HP := Lib.hid hP
    have HF := Lib.hid hF
    have HS := Lib.hid (search_calls H hH T hT hpl hsub OT hU w hTb hT2)
    have HC := Lib.hid (fun n w' hm hb hbl => search1_calls T hT hpl OT hor (w.heap.size + 2) (w.heap.size + 1) n _ hex w' hm hb (hTb.below (B := w.heap.size) hbl hTb.lt))
    have hcw : IntKind.i64.wrap OT = OT := wrap_i64_in OT hor.1 (by omega)
    clear hP hF ha hx hth hU hex h1 hmem ho1 ho2 hOT ht h5 hw hpl
    generalize xs.length = n at *
    go_enter Tryz.func126, Tryz.ntmps126
    go_wp2_with fail
    refine HP.out.mono ?_
    rintro e w' ⟨rfl, rfl⟩
    go_wp2_with fail
    refine HF.out.mono ?_
    rintro e w' ⟨rfl, rfl⟩
    go_wp2_with fail
    refine HS.out.mono ?_
    rintro e w1 ⟨rfl, g1, ⟨n1, g2⟩, g3⟩
    have HB := Lib.hid g3
    go_wp2_with fail
    refine (HC.out n1 w1 g2 g1 g3).mono ?_
    rintro e w2 ⟨rfl, b2⟩
    have HB2 := Lib.hid (HB.out.trans (b2.mono HB.out.size))
    clear b2
    go_wp2_with fail
    go_ret2
    exact ⟨rfl, HB2.out⟩
  · have ho : oThrough xs = (0, false) := by
      unfold oThrough
      rcases hw : wof xs with _ | t
      · rfl
      · show (if xs.length = 5 then ((oWith t).getD 0 0, true) else (0, false)) = (0, false)
        rw [if_neg (fun h5 => h ⟨h5, t, hw⟩)]
    rw [ho]
    have HP := Lib.hid (placesFromQ_no A c xs 5 5 w ha hx (by
      by_cases h5 : xs.length = 5
      · rcases hw : wof xs with _ | t
        · exact .inr (.inr rfl)
        · exact absurd ⟨h5, t, hw⟩ h
      · omega))
    clear ha hx ho h
    generalize xs.length = n at *
    go_enter Tryz.func126, Tryz.ntmps126
    go_wp2_with fail
    refine HP.out.mono ?_
    rintro e w' ⟨rfl, rfl⟩
    go_wp2_with fail
    go_ret2
    exact ⟨rfl, Below.refl _ _⟩
end Go.Proofs.YtcfhfllcdliaoaaGreatDoor