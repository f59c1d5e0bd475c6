/- Arcs of the program: isArc, arcFrom, PlaneOval. -/
import Derived.Test.YtaopcfiaffmfhabGreatDoorC153
import Derived.Test.YtaopcfiaffmfhabGreatDoorC10
import Derived.Test.YtaopcfiaffmfhabGreatDoorC148
namespace Go.Proofs.YtaopcfiaffmfhabGreatDoor
open Go.RowKit
set_option linter.unusedVariables false
attribute [local irreducible] octS cN octF syn

/-- The points of a word are all points of the plane when the word keeps off the base. -/
theorem all_pts {B w : Nat} (hw : w < 16777216) : ((plI w).all fun x => ptB (B : Int) x) = decide (andI (w : Int) (B : Int) = 0) := by
  have e : ∀ q : Nat, q < 24 → (ptB (B : Int) (q : Int) = true ↔ B.testBit q = false) := fun q hq => by
    rw [ptB_in (by omega) (by omega), bitI_nat]
    cases B.testBit q <;> simp
  rw [Bool.eq_iff_iff, List.all_eq_true, decide_eq_true_eq, andI_nat]
  constructor
  · intro h
    have : w &&& B = 0 := Nat.eq_of_testBit_eq fun i => by
      rw [Nat.testBit_and, Nat.zero_testBit]
      rcases hb : w.testBit i with _ | _
      · rfl
      · have hi : i < 24 := by
          rcases Nat.lt_or_ge i 24 with h1 | h1
          · exact h1
          · have : w < 2 ^ i := Nat.lt_of_lt_of_le (show w < 2 ^ 24 by omega) (Nat.pow_le_pow_right (by omega) h1)
            rw [Nat.testBit_lt_two_pow this] at hb; exact absurd hb (by decide)
        have hm : (i : Int) ∈ plI w := List.mem_map.2 ⟨i, (pl_mem w i).2 ⟨hi, hb⟩, rfl⟩
        rw [(e i hi).1 (h _ hm)]; rfl
    rw [this]; rfl
  · intro h x hx
    obtain ⟨q, hq, rfl⟩ := List.mem_map.1 hx
    obtain ⟨hq24, hqb⟩ := (pl_mem w q).1 hq
    have h0 : w &&& B = 0 := by omega
    have := congrArg (fun z => z.testBit q) h0
    simp only [Nat.testBit_and, Nat.zero_testBit, hqb, Bool.true_and] at this
    exact (e q hq24).2 this
set_option maxRecDepth 100000 in
set_option maxHeartbeats 2000000 in
theorem isArc_calls (L : List Int) (hl : L.length = 21) (hw : ∀ j, j < 21 → IsW (L.getD j 0)) (T : Int) (hT : IsW T) (w : World) :
    Calls Tryz.prog 46 #[.agg (V21 L), .int .u32 T] w fun e w' => e = .returned (.bool (L.all fun x => decide (wt (andI x T) ≤ 2))) ∧ Below w.heap.size w w' := by
  have HI := Lib.hid (show (Tryz.prog.info? 38).map (·.size) = some (V21 L).size by rw [V21_size, hl]; exact llInfo)
  have HIDX := Lib.hid (fun k hk W => idx21 L hl k hk W)
  have HWL := Lib.hid hw
  have HY := Lib.hid (fun k (hk : k < 21) (h : ¬ wt (andI (L.getD k 0) T) ≤ 2) => show (L.all fun x => decide (wt (andI x T) ≤ 2)) = false by
    rw [List.all_eq_false]
    refine ⟨L[k], List.getElem_mem (by omega), ?_⟩
    rw [getD_at _ k (by omega)]
    simpa using h)
  have HN := Lib.hid (fun (h : ∀ j, j < 21 → wt (andI (L.getD j 0) T) ≤ 2) => show (L.all fun x => decide (wt (andI x T) ≤ 2)) = true by
    rw [List.all_eq_true]
    intro x hx
    obtain ⟨j, hj, rfl⟩ := List.getElem_of_mem hx
    have := h j (by omega)
    rw [getD_at _ j hj]
    simpa using this)
  have HAW := Lib.hid (fun j (hj : j < 21) => show IsW (andI (L.getD j 0) T) from ⟨andI_nonneg _ _, andI_le _ _ hT.2⟩)
  generalize (L.all fun x => decide (wt (andI x T) ≤ 2)) = cc at *
  clear hw hl
  generalize hV : V21 L = V at *
  clear hV
  go_enter Tryz.func46, Tryz.ntmps46
  go_wp2_with (first
    | (refine wpList_load_row rfl 38 _ rfl w.heap.size rfl 38 V (0, 0) _ (Blk.new w _ _) Tryz.underlying38 rfl HI.out ?_))
  go_loopw [8] (fun i wr => ∃ k : Nat, k ≤ 21 ∧ i = .int .i64 k ∧ Hid (Below w.heap.size w wr ∧ ∀ j, j < k → wt (andI (L.getD j 0) T) ≤ 2)) (fun i _ => 21 - (intOf i).toNat)
  case atStart => exact ⟨0, by omega, rfl, Lib.hid ⟨(Below.refl _ w).alloc (Nat.le_refl _) _, fun j h => absurd h (by omega)⟩⟩
  case round =>
    obtain ⟨k, hk, rfl, hh⟩ := hrel
    obtain ⟨hb, hnn⟩ := hh.out
    have HB := Lib.hid hb
    by_cases hlt : k < 21
    · have hidx := HIDX.out k hlt
      have wx := HWL.out k hlt
      have wm := HAW.out k hlt
      have HY1 := Lib.hid (HY.out k hlt)
      have HN1 := Lib.hid (fun (h : wt (andI (L.getD k 0) T) ≤ 2) j (hj : j < k + 1) => show wt (andI (L.getD j 0) T) ≤ 2 by
        rcases (by omega : j < k ∨ j = k) with h1 | h1
        · exact hnn j h1
        · rw [h1]; exact h)
      have hq1 : (0 : Int) ≤ (k : Int) := by omega
      have hq2 : (k : Int) < 21 := by omega
      clear hnn hh hb
      generalize L.getD k 0 = z at *
      have HMT := Lib.hid (fun W => word_meet z T W wx.1 wx.2 hT.1 hT.2)
      generalize andI z T = m at *
      have HWT := Lib.hid (fun W => word_weight m W wm.1 wm.2)
      by_cases hx : wt m ≤ 2
      · have HD := Lib.hid (HN1.out hx)
        clear HN1 HY1
        generalize wt m = t at *
        go_wp2_with fail
        refine (HMT.out _).mono ?_
        rintro e w' ⟨rfl, rfl⟩
        go_wp2_with fail
        refine (HWT.out _).mono ?_
        rintro e w' ⟨rfl, kq, rfl⟩
        go_wp2_with fail
        go_roundw
        case rel => exact ⟨k + 1, by omega, by go_num, Lib.hid ⟨below_drewN HB.out _, HD.out⟩⟩
        case measure => simp [intOf]; omega
      · have hcc := HY1.out (by omega)
        subst hcc
        clear HN1 HY1
        have hx2 : 2 < wt m := by omega
        generalize wt m = t at *
        go_wp2_with fail
        refine (HMT.out _).mono ?_
        rintro e w' ⟨rfl, rfl⟩
        go_wp2_with fail
        refine (HWT.out _).mono ?_
        rintro e w' ⟨rfl, kq, rfl⟩
        go_wp2_with fail
        go_ret
        exact ⟨rfl, below_drewN HB.out _⟩
    · obtain rfl : k = 21 := by omega
      have hcc := HN.out hnn
      subst hcc
      clear hnn hh hb
      go_wp2_with fail
      go_ret
      exact ⟨rfl, HB.out⟩
theorem wpList_load_partW {P : Program} {ops : Array Oper} {rest : List Oper} {o : Oper} {a : Act} {w : World} {Q : Exit → Act → World → Prop} (hwd : Region.wanted o (yielded ops a.tmps) = true) (ty : TypeId) (x : Operand) (ho : o.op = .load ty x)
    (g : Nat) (hx : a.eval x = .pointer (some ⟨g, 0, none⟩)) (t : TypeId) (A R : Array Value) (fr : Nat × Nat) (d : TypeDesc) (hg : w.heap[g]? = some (.cells (A ++ R) t fr))
    (hu : P.underlying ty = some d) (hd : (match d with | .struct _ | .array _ _ => true | _ => false) = true) (hi : (P.info? ty).map (·.size) = some A.size)
    (h : wpList P ops Q rest (a.put o.dst (.agg A)) w) : wpList P ops Q (o :: rest) a w :=
  wpList_step fun K hK => by
    simp only [hwd, if_true]
    have hk := hK _ _ h
    unfold Oper.wp execOp
    simp only [ho, hx, Instr.loadAt, Instr.sureAddr, Sem.run_bind, Sem.run_pure, Result.andThen_ok, run_loadVar_part w g t ty A R fr d hg hu hd hi]
    exact hk
theorem results_ctt {P : Program} {fn : Func} {tmps : Array Value} {w : World} {p q r g : Nat} {ty t : TypeId} {cs : Array Value} {v v2 : Value} {d : TypeDesc} (h : fn.results = #[.cell p ty, .tmp q, .tmp r]) (hp : tmps.getD p undef = .pointer (some ⟨g, 0, none⟩)) (hq : tmps.getD q undef = v) (hr : tmps.getD r undef = v2) (hg : Blk w g t cs)
    (hu : P.underlying ty = some d) (hd : (match d with | .struct _ | .array _ _ => true | _ => false) = true) (hi : (P.info? ty).map (·.size) = some cs.size) :
    (results fn tmps).run P w = .ok (.tuple #[.agg cs, v, v2]) w := by
  have hp' : tmps[p]?.getD undef = .pointer (some ⟨g, 0, none⟩) := by simpa using hp
  have hq' : tmps[q]?.getD undef = v := by simpa using hq
  have hr' : tmps[r]?.getD undef = v2 := by simpa using hr
  simp [results, h, hp', hq', hr', asAddr, run_loadVar_row w g t ty cs (0, 0) d hg hu hd hi]
theorem arc_parts {b v n : Int} (h : arcB b v n = true) : baseB b = true ∧ wordB v = true ∧ wt v = n ∧ andI v b = 0 ∧ thinB b v = true := by
  unfold arcB at h
  simp only [Bool.and_eq_true, decide_eq_true_eq] at h
  exact ⟨h.1, h.2.1, h.2.2.1, h.2.2.2.1, h.2.2.2.2⟩
set_option maxRecDepth 100000 in
set_option maxHeartbeats 4000000 in
theorem arcFrom_yes (B : Nat) (v n : Int) (w : World) (hT : Tab3E w) (hB : IsBase B) (h : arcB (B : Int) v n = true) :
    Calls Tryz.prog 32 #[.int .i64 (B : Int), .int .i64 v, .int .i64 n] w fun e w' => e = .returned (.tuple #[.agg (VP (lns (B : Int)) (B : Int)), .int .u32 v, .bool true]) ∧ Below w.heap.size w w' := by
  obtain ⟨_, hv, hn, h0, hth⟩ := arc_parts h
  have wv : IsW v := (wordB_iff v).1 hv
  obtain ⟨v', rfl⟩ := Int.eq_ofNat_of_zero_le wv.1
  have hw : v' < 16777216 := by have := wv.2; omega
  have hall : ((plI v').all fun x => ptB (B : Int) x) = true := by rw [all_pts hw, h0]; rfl
  have hlen : ((plI v').length : Int) = n := by have := wt_plI (v' : Int) (by omega); simpa [hn] using this
  have hwof : wof (plI v') = some (v' : Int) := wof_plI (v' : Int) wv
  have HPF := Lib.hid (planeFrom_yes B hB)
  have HWP := Lib.hid (fun W (hT : TabB W) => iWordPlaces_ok (v' : Int) W wv hT)
  rw [Int.toNat_natCast] at HWP
  have HSZ := Lib.hid (VP_size (lns (B : Int)) (B : Int) (lns_len hB))
  have HALL := Lib.hid (VP_all (lns (B : Int)) (B : Int))
  have HVP := Lib.hid (show VP (lns (B : Int)) (B : Int) = V21 (lns (B : Int)) ++ #[.int .u32 (B : Int)] from rfl)
  have HS21 := Lib.hid (show (Tryz.prog.info? 38).map (·.size) = some (V21 (lns (B : Int))).size by rw [V21_size, lns_len hB]; exact llInfo)
  have HLAST := Lib.hid (VP_last (lns (B : Int)) (B : Int) (lns_len hB))
  have hmax : (plI v').length ≤ maxLen := by
    have := pl_len v'
    unfold plI maxLen
    rw [List.length_map]; omega
  have HPTS := Lib.hid (fun A c W ha => pts_yes _ B hB.1 HSZ.out HLAST.out A c (plI v') _ W ha hmax hall hwof wv.1 wv.2)
  rw [hlen] at HPTS
  have HARC := Lib.hid (fun W => isArc_calls (lns (B : Int)) (lns_len hB) (fun j hj => lns_W hB j hj) (v' : Int) wv W)
  rw [show ((lns (B : Int)).all fun x => decide (wt (andI x (v' : Int)) ≤ 2)) = true from hth] at HARC
  clear h hv hn h0 hth hall hwof hlen hmax
  generalize plI v' = L at *
  generalize VP (lns (B : Int)) (B : Int) = T at *
  generalize V21 (lns (B : Int)) = VL at *
  generalize (v' : Int) = v at *
  have HI := Lib.hid (show (Tryz.prog.info? 40).map (·.size) = some T.size by rw [HSZ.out]; exact plInfo)
  have HT := Lib.hid hT
  have HTL := Lib.hid hT.lt
  clear hT
  go_enter Tryz.func32, Tryz.ntmps32
  go_wp2_with fail
  have HBL1 := Lib.hid ((Below.refl w.heap.size w).alloc (Nat.le_refl _) (.cells #[.int .u32 0, .int .u32 0, .int .u32 0, .int .u32 0, .int .u32 0, .int .u32 0, .int .u32 0, .int .u32 0, .int .u32 0, .int .u32 0, .int .u32 0, .int .u32 0, .int .u32 0, .int .u32 0, .int .u32 0, .int .u32 0, .int .u32 0, .int .u32 0, .int .u32 0, .int .u32 0, .int .u32 0, .int .u32 0] 40))
  have HG1 := Lib.hid (show (w.alloc (.cells #[.int .u32 0, .int .u32 0, .int .u32 0, .int .u32 0, .int .u32 0, .int .u32 0, .int .u32 0, .int .u32 0, .int .u32 0, .int .u32 0, .int .u32 0, .int .u32 0, .int .u32 0, .int .u32 0, .int .u32 0, .int .u32 0, .int .u32 0, .int .u32 0, .int .u32 0, .int .u32 0, .int .u32 0, .int .u32 0] 40)).heap[w.heap.size]? = some (.cells #[.int .u32 0, .int .u32 0, .int .u32 0, .int .u32 0, .int .u32 0, .int .u32 0, .int .u32 0, .int .u32 0, .int .u32 0, .int .u32 0, .int .u32 0, .int .u32 0, .int .u32 0, .int .u32 0, .int .u32 0, .int .u32 0, .int .u32 0, .int .u32 0, .int .u32 0, .int .u32 0, .int .u32 0, .int .u32 0] 40 (0, 0)) from Blk.new w _ _)
  have hlt1 : w.heap.size < (w.alloc (.cells #[.int .u32 0, .int .u32 0, .int .u32 0, .int .u32 0, .int .u32 0, .int .u32 0, .int .u32 0, .int .u32 0, .int .u32 0, .int .u32 0, .int .u32 0, .int .u32 0, .int .u32 0, .int .u32 0, .int .u32 0, .int .u32 0, .int .u32 0, .int .u32 0, .int .u32 0, .int .u32 0, .int .u32 0, .int .u32 0] 40)).heap.size := by simp
  generalize w.alloc (.cells #[.int .u32 0, .int .u32 0, .int .u32 0, .int .u32 0, .int .u32 0, .int .u32 0, .int .u32 0, .int .u32 0, .int .u32 0, .int .u32 0, .int .u32 0, .int .u32 0, .int .u32 0, .int .u32 0, .int .u32 0, .int .u32 0, .int .u32 0, .int .u32 0, .int .u32 0, .int .u32 0, .int .u32 0, .int .u32 0] 40) = W1 at *
  refine (HPF.out _ (HT.out.two.below HBL1.out HT.out.two.lt)).mono ?_
  rintro e w2 ⟨rfl, b2⟩
  have HG2 := Lib.hid ((b2.block _ hlt1).trans HG1.out)
  have B2 := HBL1.out.trans (b2.mono HBL1.out.size)
  have hlt2 : w.heap.size < w2.heap.size := Nat.lt_of_lt_of_le hlt1 b2.size
  clear b2 hlt1
  go_wp2_with (first
    | (refine wpList_store_row rfl 40 _ _ rfl w2.heap.size T rfl rfl 40 _ (Blk.new w2 _ _) HI.out (by rw [HSZ.out]; rfl) HALL.out ?_; have hcg := setRow_heap (w2.alloc (.cells #[.int .u32 0, .int .u32 0, .int .u32 0, .int .u32 0, .int .u32 0, .int .u32 0, .int .u32 0, .int .u32 0, .int .u32 0, .int .u32 0, .int .u32 0, .int .u32 0, .int .u32 0, .int .u32 0, .int .u32 0, .int .u32 0, .int .u32 0, .int .u32 0, .int .u32 0, .int .u32 0, .int .u32 0, .int .u32 0] 40)) w2.heap.size _ T 40 (0, 0) (Blk.new w2 _ _); have hb3 := below_rowP (B2.alloc B2.size (.cells #[.int .u32 0, .int .u32 0, .int .u32 0, .int .u32 0, .int .u32 0, .int .u32 0, .int .u32 0, .int .u32 0, .int .u32 0, .int .u32 0, .int .u32 0, .int .u32 0, .int .u32 0, .int .u32 0, .int .u32 0, .int .u32 0, .int .u32 0, .int .u32 0, .int .u32 0, .int .u32 0, .int .u32 0, .int .u32 0] 40)) B2.size T; have hg3 := (setRow_other (w2.alloc (.cells #[.int .u32 0, .int .u32 0, .int .u32 0, .int .u32 0, .int .u32 0, .int .u32 0, .int .u32 0, .int .u32 0, .int .u32 0, .int .u32 0, .int .u32 0, .int .u32 0, .int .u32 0, .int .u32 0, .int .u32 0, .int .u32 0, .int .u32 0, .int .u32 0, .int .u32 0, .int .u32 0, .int .u32 0, .int .u32 0] 40)) w2.heap.size w.heap.size T (by omega)).trans ((heap_alloc_old w2 (.cells #[.int .u32 0, .int .u32 0, .int .u32 0, .int .u32 0, .int .u32 0, .int .u32 0, .int .u32 0, .int .u32 0, .int .u32 0, .int .u32 0, .int .u32 0, .int .u32 0, .int .u32 0, .int .u32 0, .int .u32 0, .int .u32 0, .int .u32 0, .int .u32 0, .int .u32 0, .int .u32 0, .int .u32 0, .int .u32 0] 40) hlt2).trans HG2.out); generalize (w2.alloc (.cells #[.int .u32 0, .int .u32 0, .int .u32 0, .int .u32 0, .int .u32 0, .int .u32 0, .int .u32 0, .int .u32 0, .int .u32 0, .int .u32 0, .int .u32 0, .int .u32 0, .int .u32 0, .int .u32 0, .int .u32 0, .int .u32 0, .int .u32 0, .int .u32 0, .int .u32 0, .int .u32 0, .int .u32 0, .int .u32 0] 40)).setRow w2.heap.size T = w3 at *; have HG3 := Lib.hid hg3; have HCG := Lib.hid hcg; have HB3 := Lib.hid hb3; clear hcg hb3 hg3))
  have hlt3 : w2.heap.size < w3.heap.size := by
    rcases Nat.lt_or_ge w2.heap.size w3.heap.size with h | h
    · exact h
    · have := HCG.out; rw [Array.getElem?_eq_none h] at this; cases this
  refine (HWP.out _ (HT.out.1.below HB3.out (show _ < _ from Nat.lt_of_le_of_lt (by first | exact Nat.le_refl _ | decide | (unfold tab3EG tab3G; omega)) HTL.out))).mono ?_
  rintro e w4 ⟨lv, rfl, o4, b4⟩
  obtain ⟨A4, c4, rfl⟩ := o4.slice
  have hlt0 : w.heap.size < w3.heap.size := by omega
  have B4 := HB3.out.trans (b4.mono HB3.out.size)
  have HCG4 := Lib.hid ((b4.block _ hlt3).trans HCG.out)
  have HG4 := Lib.hid ((b4.block _ hlt0).trans HG3.out)
  have HB4 := Lib.hid B4
  have hlt4 : w2.heap.size < w4.heap.size := Nat.lt_of_lt_of_le hlt3 b4.size
  have hlt40 : w.heap.size < w4.heap.size := Nat.lt_of_lt_of_le hlt0 b4.size
  have HPC := Lib.hid (HPTS.out A4 c4 w4 o4.rds)
  clear b4 B4 o4
  go_wp2_with (first
    | (refine wpList_load_row rfl 40 _ rfl w2.heap.size rfl 40 T (0, 0) _ HCG4.out Tryz.underlying40 rfl HI.out ?_))
  refine HPC.out.mono ?_
  rintro e w5 ⟨rfl, b5⟩
  have HCG5 := Lib.hid (((b5.block _ hlt4).trans HCG4.out).trans (show some (Obj.cells T 40 (0, 0)) = some (.cells (VL ++ #[.int .u32 (B : Int)]) 40 (0, 0)) by rw [HVP.out]))
  have HG5 := Lib.hid ((b5.block _ hlt40).trans HG4.out)
  have HB5 := Lib.hid (HB4.out.trans (b5.mono HB4.out.size))
  have hlt5 : w2.heap.size < w5.heap.size := Nat.lt_of_lt_of_le hlt4 b5.size
  have hlt50 : w.heap.size < w5.heap.size := Nat.lt_of_lt_of_le hlt40 b5.size
  clear b5
  go_wp2_with (refine wpList_load_partW (by first | rfl | (simp [go_sem]; done)) 38 _ rfl w2.heap.size rfl 40 VL #[.int .u32 (B : Int)] (0, 0) _ HCG5.out Tryz.underlying38 rfl HS21.out ?_)
  refine (HARC.out _).mono ?_
  rintro e w6 ⟨rfl, b6⟩
  have HCG6 := Lib.hid (((b6.block _ hlt5).trans HCG5.out).trans (show some (Obj.cells (VL ++ #[.int .u32 (B : Int)]) 40 (0, 0)) = some (.cells T 40 (0, 0)) by rw [HVP.out]))
  have HG6 := Lib.hid ((b6.block _ hlt50).trans HG5.out)
  have HB6 := Lib.hid (HB5.out.trans (b6.mono HB5.out.size))
  clear b6
  go_wp2_with (first
    | (refine wpList_load_row rfl 40 _ rfl w2.heap.size rfl 40 T (0, 0) _ HCG6.out Tryz.underlying40 rfl HI.out ?_)
    | (refine wpList_store_row rfl 40 _ _ rfl w.heap.size T rfl rfl 40 _ HG6.out HI.out (by rw [HSZ.out]; rfl) HALL.out ?_))
  exact bodyPost_ret (results_ctt rfl rfl rfl rfl (setRow_heap _ _ _ _ _ _ HG6.out : Blk _ _ _ _) Tryz.underlying40 rfl HI.out) rfl ⟨rfl, below_rowP HB6.out (Nat.le_refl _) T⟩
set_option maxRecDepth 100000 in
set_option maxHeartbeats 4000000 in
theorem arcFrom_base (b v n : Int) (w : World) (h : baseB b = false) :
    Calls Tryz.prog 32 #[.int .i64 b, .int .i64 v, .int .i64 n] w fun e w' => e = .returned (.tuple #[.agg (VP (List.replicate 21 0) 0), .int .u32 0, .bool false]) ∧ Below w.heap.size w w' := by
  have HPF := Lib.hid (planeFrom_no b h)
  clear h
  have HZB := Lib.hid plBuilt0
  have HSZ0 := Lib.hid (VP_size (List.replicate 21 0) 0 (by simp))
  have HALL0 := Lib.hid (VP_all (List.replicate 21 0) 0)
  generalize VP (List.replicate 21 0) 0 = Z0 at *
  have HI0 := Lib.hid (show (Tryz.prog.info? 40).map (·.size) = some Z0.size by rw [HSZ0.out]; exact plInfo)
  go_enter Tryz.func32, Tryz.ntmps32
  go_wp2_with fail
  have HBL1 := Lib.hid ((Below.refl w.heap.size w).alloc (Nat.le_refl _) (.cells #[.int .u32 0, .int .u32 0, .int .u32 0, .int .u32 0, .int .u32 0, .int .u32 0, .int .u32 0, .int .u32 0, .int .u32 0, .int .u32 0, .int .u32 0, .int .u32 0, .int .u32 0, .int .u32 0, .int .u32 0, .int .u32 0, .int .u32 0, .int .u32 0, .int .u32 0, .int .u32 0, .int .u32 0, .int .u32 0] 40))
  have HG1 := Lib.hid (show (w.alloc (.cells #[.int .u32 0, .int .u32 0, .int .u32 0, .int .u32 0, .int .u32 0, .int .u32 0, .int .u32 0, .int .u32 0, .int .u32 0, .int .u32 0, .int .u32 0, .int .u32 0, .int .u32 0, .int .u32 0, .int .u32 0, .int .u32 0, .int .u32 0, .int .u32 0, .int .u32 0, .int .u32 0, .int .u32 0, .int .u32 0] 40)).heap[w.heap.size]? = some (.cells #[.int .u32 0, .int .u32 0, .int .u32 0, .int .u32 0, .int .u32 0, .int .u32 0, .int .u32 0, .int .u32 0, .int .u32 0, .int .u32 0, .int .u32 0, .int .u32 0, .int .u32 0, .int .u32 0, .int .u32 0, .int .u32 0, .int .u32 0, .int .u32 0, .int .u32 0, .int .u32 0, .int .u32 0, .int .u32 0] 40 (0, 0)) from Blk.new w _ _)
  have hlt1 : w.heap.size < (w.alloc (.cells #[.int .u32 0, .int .u32 0, .int .u32 0, .int .u32 0, .int .u32 0, .int .u32 0, .int .u32 0, .int .u32 0, .int .u32 0, .int .u32 0, .int .u32 0, .int .u32 0, .int .u32 0, .int .u32 0, .int .u32 0, .int .u32 0, .int .u32 0, .int .u32 0, .int .u32 0, .int .u32 0, .int .u32 0, .int .u32 0] 40)).heap.size := by simp
  generalize w.alloc (.cells #[.int .u32 0, .int .u32 0, .int .u32 0, .int .u32 0, .int .u32 0, .int .u32 0, .int .u32 0, .int .u32 0, .int .u32 0, .int .u32 0, .int .u32 0, .int .u32 0, .int .u32 0, .int .u32 0, .int .u32 0, .int .u32 0, .int .u32 0, .int .u32 0, .int .u32 0, .int .u32 0, .int .u32 0, .int .u32 0] 40) = W1 at *
  refine (HPF.out _).mono ?_
  rintro e w2 ⟨rfl, b2⟩
  have HG2 := Lib.hid ((b2.block _ hlt1).trans HG1.out)
  have B2 := HBL1.out.trans (b2.mono HBL1.out.size)
  have hlt2 : w.heap.size < w2.heap.size := Nat.lt_of_lt_of_le hlt1 b2.size
  clear b2 hlt1
  go_wp2_with (first
    | (refine wpList_store_row rfl 40 _ _ rfl w2.heap.size Z0 rfl rfl 40 _ (Blk.new w2 _ _) HI0.out (by rw [HSZ0.out]; rfl) HALL0.out ?_; have hcg := setRow_heap (w2.alloc (.cells #[.int .u32 0, .int .u32 0, .int .u32 0, .int .u32 0, .int .u32 0, .int .u32 0, .int .u32 0, .int .u32 0, .int .u32 0, .int .u32 0, .int .u32 0, .int .u32 0, .int .u32 0, .int .u32 0, .int .u32 0, .int .u32 0, .int .u32 0, .int .u32 0, .int .u32 0, .int .u32 0, .int .u32 0, .int .u32 0] 40)) w2.heap.size _ Z0 40 (0, 0) (Blk.new w2 _ _); have hb3 := below_rowP (B2.alloc B2.size (.cells #[.int .u32 0, .int .u32 0, .int .u32 0, .int .u32 0, .int .u32 0, .int .u32 0, .int .u32 0, .int .u32 0, .int .u32 0, .int .u32 0, .int .u32 0, .int .u32 0, .int .u32 0, .int .u32 0, .int .u32 0, .int .u32 0, .int .u32 0, .int .u32 0, .int .u32 0, .int .u32 0, .int .u32 0, .int .u32 0] 40)) B2.size Z0; have hg3 := (setRow_other (w2.alloc (.cells #[.int .u32 0, .int .u32 0, .int .u32 0, .int .u32 0, .int .u32 0, .int .u32 0, .int .u32 0, .int .u32 0, .int .u32 0, .int .u32 0, .int .u32 0, .int .u32 0, .int .u32 0, .int .u32 0, .int .u32 0, .int .u32 0, .int .u32 0, .int .u32 0, .int .u32 0, .int .u32 0, .int .u32 0, .int .u32 0] 40)) w2.heap.size w.heap.size Z0 (by omega)).trans ((heap_alloc_old w2 (.cells #[.int .u32 0, .int .u32 0, .int .u32 0, .int .u32 0, .int .u32 0, .int .u32 0, .int .u32 0, .int .u32 0, .int .u32 0, .int .u32 0, .int .u32 0, .int .u32 0, .int .u32 0, .int .u32 0, .int .u32 0, .int .u32 0, .int .u32 0, .int .u32 0, .int .u32 0, .int .u32 0, .int .u32 0, .int .u32 0] 40) hlt2).trans HG2.out); generalize (w2.alloc (.cells #[.int .u32 0, .int .u32 0, .int .u32 0, .int .u32 0, .int .u32 0, .int .u32 0, .int .u32 0, .int .u32 0, .int .u32 0, .int .u32 0, .int .u32 0, .int .u32 0, .int .u32 0, .int .u32 0, .int .u32 0, .int .u32 0, .int .u32 0, .int .u32 0, .int .u32 0, .int .u32 0, .int .u32 0, .int .u32 0] 40)).setRow w2.heap.size Z0 = w3 at *; have HG3 := Lib.hid hg3; have HCG := Lib.hid hcg; have HB3 := Lib.hid hb3; clear hcg hb3 hg3)
    | (refine wpList_build0 rfl 40 rfl Z0 HZB.out ?_)
    | (refine wpList_store_row rfl 40 _ _ rfl w.heap.size Z0 rfl rfl 40 _ HG3.out HI0.out (by rw [HSZ0.out]; rfl) HALL0.out ?_))
  exact bodyPost_ret (results_ctt rfl rfl rfl rfl (setRow_heap _ _ _ _ _ _ HG3.out : Blk _ _ _ _) Tryz.underlying40 rfl HI0.out) rfl ⟨rfl, below_rowP HB3.out (Nat.le_refl _) Z0⟩
set_option maxRecDepth 100000 in
set_option maxHeartbeats 4000000 in
theorem arcFrom_word (B : Nat) (v n : Int) (w : World) (hT : Tab3E w) (hB : IsBase B) (h : wordB v = false) :
    Calls Tryz.prog 32 #[.int .i64 (B : Int), .int .i64 v, .int .i64 n] w fun e w' => e = .returned (.tuple #[.agg (VP (List.replicate 21 0) 0), .int .u32 0, .bool false]) ∧ Below w.heap.size w w' := by
  have HPF := Lib.hid (planeFrom_yes B hB)
  have HSZ := Lib.hid (VP_size (lns (B : Int)) (B : Int) (lns_len hB))
  have HALL := Lib.hid (VP_all (lns (B : Int)) (B : Int))
  have HVP := Lib.hid (show VP (lns (B : Int)) (B : Int) = V21 (lns (B : Int)) ++ #[.int .u32 (B : Int)] from rfl)
  have HS21 := Lib.hid (show (Tryz.prog.info? 38).map (·.size) = some (V21 (lns (B : Int))).size by rw [V21_size, lns_len hB]; exact llInfo)
  have HLAST := Lib.hid (VP_last (lns (B : Int)) (B : Int) (lns_len hB))
  have HWP := Lib.hid (fun W => iWordPlaces_no v W ((wordB_no v).1 h))
  clear h
  generalize VP (lns (B : Int)) (B : Int) = T at *
  generalize V21 (lns (B : Int)) = VL at *
  have HZB := Lib.hid plBuilt0
  have HSZ0 := Lib.hid (VP_size (List.replicate 21 0) 0 (by simp))
  have HALL0 := Lib.hid (VP_all (List.replicate 21 0) 0)
  generalize VP (List.replicate 21 0) 0 = Z0 at *
  have HI0 := Lib.hid (show (Tryz.prog.info? 40).map (·.size) = some Z0.size by rw [HSZ0.out]; exact plInfo)
  have HI := Lib.hid (show (Tryz.prog.info? 40).map (·.size) = some T.size by rw [HSZ.out]; exact plInfo)
  have HT := Lib.hid hT
  have HTL := Lib.hid hT.lt
  clear hT
  go_enter Tryz.func32, Tryz.ntmps32
  go_wp2_with fail
  have HBL1 := Lib.hid ((Below.refl w.heap.size w).alloc (Nat.le_refl _) (.cells #[.int .u32 0, .int .u32 0, .int .u32 0, .int .u32 0, .int .u32 0, .int .u32 0, .int .u32 0, .int .u32 0, .int .u32 0, .int .u32 0, .int .u32 0, .int .u32 0, .int .u32 0, .int .u32 0, .int .u32 0, .int .u32 0, .int .u32 0, .int .u32 0, .int .u32 0, .int .u32 0, .int .u32 0, .int .u32 0] 40))
  have HG1 := Lib.hid (show (w.alloc (.cells #[.int .u32 0, .int .u32 0, .int .u32 0, .int .u32 0, .int .u32 0, .int .u32 0, .int .u32 0, .int .u32 0, .int .u32 0, .int .u32 0, .int .u32 0, .int .u32 0, .int .u32 0, .int .u32 0, .int .u32 0, .int .u32 0, .int .u32 0, .int .u32 0, .int .u32 0, .int .u32 0, .int .u32 0, .int .u32 0] 40)).heap[w.heap.size]? = some (.cells #[.int .u32 0, .int .u32 0, .int .u32 0, .int .u32 0, .int .u32 0, .int .u32 0, .int .u32 0, .int .u32 0, .int .u32 0, .int .u32 0, .int .u32 0, .int .u32 0, .int .u32 0, .int .u32 0, .int .u32 0, .int .u32 0, .int .u32 0, .int .u32 0, .int .u32 0, .int .u32 0, .int .u32 0, .int .u32 0] 40 (0, 0)) from Blk.new w _ _)
  have hlt1 : w.heap.size < (w.alloc (.cells #[.int .u32 0, .int .u32 0, .int .u32 0, .int .u32 0, .int .u32 0, .int .u32 0, .int .u32 0, .int .u32 0, .int .u32 0, .int .u32 0, .int .u32 0, .int .u32 0, .int .u32 0, .int .u32 0, .int .u32 0, .int .u32 0, .int .u32 0, .int .u32 0, .int .u32 0, .int .u32 0, .int .u32 0, .int .u32 0] 40)).heap.size := by simp
  generalize w.alloc (.cells #[.int .u32 0, .int .u32 0, .int .u32 0, .int .u32 0, .int .u32 0, .int .u32 0, .int .u32 0, .int .u32 0, .int .u32 0, .int .u32 0, .int .u32 0, .int .u32 0, .int .u32 0, .int .u32 0, .int .u32 0, .int .u32 0, .int .u32 0, .int .u32 0, .int .u32 0, .int .u32 0, .int .u32 0, .int .u32 0] 40) = W1 at *
  refine (HPF.out _ (HT.out.two.below HBL1.out HT.out.two.lt)).mono ?_
  rintro e w2 ⟨rfl, b2⟩
  have HG2 := Lib.hid ((b2.block _ hlt1).trans HG1.out)
  have B2 := HBL1.out.trans (b2.mono HBL1.out.size)
  have hlt2 : w.heap.size < w2.heap.size := Nat.lt_of_lt_of_le hlt1 b2.size
  clear b2 hlt1
  go_wp2_with (first
    | (refine wpList_store_row rfl 40 _ _ rfl w2.heap.size T rfl rfl 40 _ (Blk.new w2 _ _) HI.out (by rw [HSZ.out]; rfl) HALL.out ?_; have hcg := setRow_heap (w2.alloc (.cells #[.int .u32 0, .int .u32 0, .int .u32 0, .int .u32 0, .int .u32 0, .int .u32 0, .int .u32 0, .int .u32 0, .int .u32 0, .int .u32 0, .int .u32 0, .int .u32 0, .int .u32 0, .int .u32 0, .int .u32 0, .int .u32 0, .int .u32 0, .int .u32 0, .int .u32 0, .int .u32 0, .int .u32 0, .int .u32 0] 40)) w2.heap.size _ T 40 (0, 0) (Blk.new w2 _ _); have hb3 := below_rowP (B2.alloc B2.size (.cells #[.int .u32 0, .int .u32 0, .int .u32 0, .int .u32 0, .int .u32 0, .int .u32 0, .int .u32 0, .int .u32 0, .int .u32 0, .int .u32 0, .int .u32 0, .int .u32 0, .int .u32 0, .int .u32 0, .int .u32 0, .int .u32 0, .int .u32 0, .int .u32 0, .int .u32 0, .int .u32 0, .int .u32 0, .int .u32 0] 40)) B2.size T; have hg3 := (setRow_other (w2.alloc (.cells #[.int .u32 0, .int .u32 0, .int .u32 0, .int .u32 0, .int .u32 0, .int .u32 0, .int .u32 0, .int .u32 0, .int .u32 0, .int .u32 0, .int .u32 0, .int .u32 0, .int .u32 0, .int .u32 0, .int .u32 0, .int .u32 0, .int .u32 0, .int .u32 0, .int .u32 0, .int .u32 0, .int .u32 0, .int .u32 0] 40)) w2.heap.size w.heap.size T (by omega)).trans ((heap_alloc_old w2 (.cells #[.int .u32 0, .int .u32 0, .int .u32 0, .int .u32 0, .int .u32 0, .int .u32 0, .int .u32 0, .int .u32 0, .int .u32 0, .int .u32 0, .int .u32 0, .int .u32 0, .int .u32 0, .int .u32 0, .int .u32 0, .int .u32 0, .int .u32 0, .int .u32 0, .int .u32 0, .int .u32 0, .int .u32 0, .int .u32 0] 40) hlt2).trans HG2.out); generalize (w2.alloc (.cells #[.int .u32 0, .int .u32 0, .int .u32 0, .int .u32 0, .int .u32 0, .int .u32 0, .int .u32 0, .int .u32 0, .int .u32 0, .int .u32 0, .int .u32 0, .int .u32 0, .int .u32 0, .int .u32 0, .int .u32 0, .int .u32 0, .int .u32 0, .int .u32 0, .int .u32 0, .int .u32 0, .int .u32 0, .int .u32 0] 40)).setRow w2.heap.size T = w3 at *; have HG3 := Lib.hid hg3; have HCG := Lib.hid hcg; have HB3 := Lib.hid hb3; clear hcg hb3 hg3))
  have hlt3 : w2.heap.size < w3.heap.size := by
    rcases Nat.lt_or_ge w2.heap.size w3.heap.size with h | h
    · exact h
    · have := HCG.out; rw [Array.getElem?_eq_none h] at this; cases this
  refine (HWP.out _).mono ?_
  rintro e w' ⟨rfl, rfl⟩
  go_wp2_with (first
    | (refine wpList_build0 rfl 40 rfl Z0 HZB.out ?_)
    | (refine wpList_store_row rfl 40 _ _ rfl w.heap.size Z0 rfl rfl 40 _ HG3.out HI0.out (by rw [HSZ0.out]; rfl) HALL0.out ?_))
  exact bodyPost_ret (results_ctt rfl rfl rfl rfl (setRow_heap _ _ _ _ _ _ HG3.out : Blk _ _ _ _) Tryz.underlying40 rfl HI0.out) rfl ⟨rfl, below_rowP HB3.out (Nat.le_refl _) Z0⟩
set_option maxRecDepth 100000 in
set_option maxHeartbeats 4000000 in
theorem arcFrom_pts (B : Nat) (v n : Int) (w : World) (hT : Tab3E w) (hB : IsBase B) (wv : IsW v) (h : wt v ≠ n ∨ andI v (B : Int) ≠ 0) :
    Calls Tryz.prog 32 #[.int .i64 (B : Int), .int .i64 v, .int .i64 n] w fun e w' => e = .returned (.tuple #[.agg (VP (List.replicate 21 0) 0), .int .u32 0, .bool false]) ∧ Below w.heap.size w w' := by
  have HPF := Lib.hid (planeFrom_yes B hB)
  have HSZ := Lib.hid (VP_size (lns (B : Int)) (B : Int) (lns_len hB))
  have HALL := Lib.hid (VP_all (lns (B : Int)) (B : Int))
  have HVP := Lib.hid (show VP (lns (B : Int)) (B : Int) = V21 (lns (B : Int)) ++ #[.int .u32 (B : Int)] from rfl)
  have HS21 := Lib.hid (show (Tryz.prog.info? 38).map (·.size) = some (V21 (lns (B : Int))).size by rw [V21_size, lns_len hB]; exact llInfo)
  have HLAST := Lib.hid (VP_last (lns (B : Int)) (B : Int) (lns_len hB))
  obtain ⟨v', rfl⟩ := Int.eq_ofNat_of_zero_le wv.1
  have hw : v' < 16777216 := by have := wv.2; omega
  have HWP := Lib.hid (fun W (hT : TabB W) => iWordPlaces_ok (v' : Int) W wv hT)
  rw [Int.toNat_natCast] at HWP
  have hmax : (plI v').length ≤ maxLen := by
    have := pl_len v'
    unfold plI maxLen
    rw [List.length_map]; omega
  have hlen : ((plI v').length : Int) = wt (v' : Int) := by have := wt_plI (v' : Int) (by omega); simpa using this
  have hno : ((plI v').all fun x => ptB (B : Int) x) = false ∨ ((plI v').length : Int) ≠ n ∨ wof (plI v') = none := by
    rcases h with h | h
    · exact .inr (.inl (by rw [hlen]; exact h))
    · exact .inl (by rw [all_pts hw]; exact decide_eq_false h)
  have HPTS := Lib.hid (fun A c W ha hE => pts_no _ B hB.1 HSZ.out HLAST.out A c (plI v') n W ha hmax hE hno)
  clear h hlen hno hmax
  generalize plI v' = L at *
  generalize VP (lns (B : Int)) (B : Int) = T at *
  generalize V21 (lns (B : Int)) = VL at *
  generalize (v' : Int) = v at *
  have HZB := Lib.hid plBuilt0
  have HSZ0 := Lib.hid (VP_size (List.replicate 21 0) 0 (by simp))
  have HALL0 := Lib.hid (VP_all (List.replicate 21 0) 0)
  generalize VP (List.replicate 21 0) 0 = Z0 at *
  have HI0 := Lib.hid (show (Tryz.prog.info? 40).map (·.size) = some Z0.size by rw [HSZ0.out]; exact plInfo)
  have HI := Lib.hid (show (Tryz.prog.info? 40).map (·.size) = some T.size by rw [HSZ.out]; exact plInfo)
  have HT := Lib.hid hT
  have HTL := Lib.hid hT.lt
  clear hT
  go_enter Tryz.func32, Tryz.ntmps32
  go_wp2_with fail
  have HBL1 := Lib.hid ((Below.refl w.heap.size w).alloc (Nat.le_refl _) (.cells #[.int .u32 0, .int .u32 0, .int .u32 0, .int .u32 0, .int .u32 0, .int .u32 0, .int .u32 0, .int .u32 0, .int .u32 0, .int .u32 0, .int .u32 0, .int .u32 0, .int .u32 0, .int .u32 0, .int .u32 0, .int .u32 0, .int .u32 0, .int .u32 0, .int .u32 0, .int .u32 0, .int .u32 0, .int .u32 0] 40))
  have HG1 := Lib.hid (show (w.alloc (.cells #[.int .u32 0, .int .u32 0, .int .u32 0, .int .u32 0, .int .u32 0, .int .u32 0, .int .u32 0, .int .u32 0, .int .u32 0, .int .u32 0, .int .u32 0, .int .u32 0, .int .u32 0, .int .u32 0, .int .u32 0, .int .u32 0, .int .u32 0, .int .u32 0, .int .u32 0, .int .u32 0, .int .u32 0, .int .u32 0] 40)).heap[w.heap.size]? = some (.cells #[.int .u32 0, .int .u32 0, .int .u32 0, .int .u32 0, .int .u32 0, .int .u32 0, .int .u32 0, .int .u32 0, .int .u32 0, .int .u32 0, .int .u32 0, .int .u32 0, .int .u32 0, .int .u32 0, .int .u32 0, .int .u32 0, .int .u32 0, .int .u32 0, .int .u32 0, .int .u32 0, .int .u32 0, .int .u32 0] 40 (0, 0)) from Blk.new w _ _)
  have hlt1 : w.heap.size < (w.alloc (.cells #[.int .u32 0, .int .u32 0, .int .u32 0, .int .u32 0, .int .u32 0, .int .u32 0, .int .u32 0, .int .u32 0, .int .u32 0, .int .u32 0, .int .u32 0, .int .u32 0, .int .u32 0, .int .u32 0, .int .u32 0, .int .u32 0, .int .u32 0, .int .u32 0, .int .u32 0, .int .u32 0, .int .u32 0, .int .u32 0] 40)).heap.size := by simp
  generalize w.alloc (.cells #[.int .u32 0, .int .u32 0, .int .u32 0, .int .u32 0, .int .u32 0, .int .u32 0, .int .u32 0, .int .u32 0, .int .u32 0, .int .u32 0, .int .u32 0, .int .u32 0, .int .u32 0, .int .u32 0, .int .u32 0, .int .u32 0, .int .u32 0, .int .u32 0, .int .u32 0, .int .u32 0, .int .u32 0, .int .u32 0] 40) = W1 at *
  refine (HPF.out _ (HT.out.two.below HBL1.out HT.out.two.lt)).mono ?_
  rintro e w2 ⟨rfl, b2⟩
  have HG2 := Lib.hid ((b2.block _ hlt1).trans HG1.out)
  have B2 := HBL1.out.trans (b2.mono HBL1.out.size)
  have hlt2 : w.heap.size < w2.heap.size := Nat.lt_of_lt_of_le hlt1 b2.size
  clear b2 hlt1
  go_wp2_with (first
    | (refine wpList_store_row rfl 40 _ _ rfl w2.heap.size T rfl rfl 40 _ (Blk.new w2 _ _) HI.out (by rw [HSZ.out]; rfl) HALL.out ?_; have hcg := setRow_heap (w2.alloc (.cells #[.int .u32 0, .int .u32 0, .int .u32 0, .int .u32 0, .int .u32 0, .int .u32 0, .int .u32 0, .int .u32 0, .int .u32 0, .int .u32 0, .int .u32 0, .int .u32 0, .int .u32 0, .int .u32 0, .int .u32 0, .int .u32 0, .int .u32 0, .int .u32 0, .int .u32 0, .int .u32 0, .int .u32 0, .int .u32 0] 40)) w2.heap.size _ T 40 (0, 0) (Blk.new w2 _ _); have hb3 := below_rowP (B2.alloc B2.size (.cells #[.int .u32 0, .int .u32 0, .int .u32 0, .int .u32 0, .int .u32 0, .int .u32 0, .int .u32 0, .int .u32 0, .int .u32 0, .int .u32 0, .int .u32 0, .int .u32 0, .int .u32 0, .int .u32 0, .int .u32 0, .int .u32 0, .int .u32 0, .int .u32 0, .int .u32 0, .int .u32 0, .int .u32 0, .int .u32 0] 40)) B2.size T; have hg3 := (setRow_other (w2.alloc (.cells #[.int .u32 0, .int .u32 0, .int .u32 0, .int .u32 0, .int .u32 0, .int .u32 0, .int .u32 0, .int .u32 0, .int .u32 0, .int .u32 0, .int .u32 0, .int .u32 0, .int .u32 0, .int .u32 0, .int .u32 0, .int .u32 0, .int .u32 0, .int .u32 0, .int .u32 0, .int .u32 0, .int .u32 0, .int .u32 0] 40)) w2.heap.size w.heap.size T (by omega)).trans ((heap_alloc_old w2 (.cells #[.int .u32 0, .int .u32 0, .int .u32 0, .int .u32 0, .int .u32 0, .int .u32 0, .int .u32 0, .int .u32 0, .int .u32 0, .int .u32 0, .int .u32 0, .int .u32 0, .int .u32 0, .int .u32 0, .int .u32 0, .int .u32 0, .int .u32 0, .int .u32 0, .int .u32 0, .int .u32 0, .int .u32 0, .int .u32 0] 40) hlt2).trans HG2.out); generalize (w2.alloc (.cells #[.int .u32 0, .int .u32 0, .int .u32 0, .int .u32 0, .int .u32 0, .int .u32 0, .int .u32 0, .int .u32 0, .int .u32 0, .int .u32 0, .int .u32 0, .int .u32 0, .int .u32 0, .int .u32 0, .int .u32 0, .int .u32 0, .int .u32 0, .int .u32 0, .int .u32 0, .int .u32 0, .int .u32 0, .int .u32 0] 40)).setRow w2.heap.size T = w3 at *; have HG3 := Lib.hid hg3; have HCG := Lib.hid hcg; have HB3 := Lib.hid hb3; clear hcg hb3 hg3))
  have hlt3 : w2.heap.size < w3.heap.size := by
    rcases Nat.lt_or_ge w2.heap.size w3.heap.size with h | h
    · exact h
    · have := HCG.out; rw [Array.getElem?_eq_none h] at this; cases this
  refine (HWP.out _ (HT.out.1.below HB3.out (show _ < _ from Nat.lt_of_le_of_lt (by first | exact Nat.le_refl _ | decide | (unfold tab3EG tab3G; omega)) HTL.out))).mono ?_
  rintro e w4 ⟨lv, rfl, o4, b4⟩
  obtain ⟨A4, c4, rfl⟩ := o4.slice
  have hlt0 : w.heap.size < w3.heap.size := by omega
  have B4 := HB3.out.trans (b4.mono HB3.out.size)
  have HCG4 := Lib.hid ((b4.block _ hlt3).trans HCG.out)
  have HG4 := Lib.hid ((b4.block _ hlt0).trans HG3.out)
  have HB4 := Lib.hid B4
  have hlt4 : w2.heap.size < w4.heap.size := Nat.lt_of_lt_of_le hlt3 b4.size
  have hlt40 : w.heap.size < w4.heap.size := Nat.lt_of_lt_of_le hlt0 b4.size
  have HPC := Lib.hid (HPTS.out A4 c4 w4 o4.rds (HT.out.hand.below HB4.out HT.out.hand.lt))
  clear b4 B4 o4
  go_wp2_with (first
    | (refine wpList_load_row rfl 40 _ rfl w2.heap.size rfl 40 T (0, 0) _ HCG4.out Tryz.underlying40 rfl HI.out ?_))
  refine HPC.out.mono ?_
  rintro e w5 ⟨rfl, b5⟩
  have HG5 := Lib.hid ((b5.block _ hlt40).trans HG4.out)
  have HB5 := Lib.hid (HB4.out.trans (b5.mono HB4.out.size))
  clear b5
  go_wp2_with (first
    | (refine wpList_build0 rfl 40 rfl Z0 HZB.out ?_)
    | (refine wpList_store_row rfl 40 _ _ rfl w.heap.size Z0 rfl rfl 40 _ HG5.out HI0.out (by rw [HSZ0.out]; rfl) HALL0.out ?_))
  exact bodyPost_ret (results_ctt rfl rfl rfl rfl (setRow_heap _ _ _ _ _ _ HG5.out : Blk _ _ _ _) Tryz.underlying40 rfl HI0.out) rfl ⟨rfl, below_rowP HB5.out (Nat.le_refl _) Z0⟩
set_option maxRecDepth 100000 in
set_option maxHeartbeats 4000000 in
theorem arcFrom_thick (B : Nat) (v n : Int) (w : World) (hT : Tab3E w) (hB : IsBase B) (wv : IsW v) (hn : wt v = n) (h0 : andI v (B : Int) = 0) (hth : thinB (B : Int) v = false) :
    Calls Tryz.prog 32 #[.int .i64 (B : Int), .int .i64 v, .int .i64 n] w fun e w' => e = .returned (.tuple #[.agg (VP (List.replicate 21 0) 0), .int .u32 0, .bool false]) ∧ Below w.heap.size w w' := by
  have HPF := Lib.hid (planeFrom_yes B hB)
  have HSZ := Lib.hid (VP_size (lns (B : Int)) (B : Int) (lns_len hB))
  have HALL := Lib.hid (VP_all (lns (B : Int)) (B : Int))
  have HVP := Lib.hid (show VP (lns (B : Int)) (B : Int) = V21 (lns (B : Int)) ++ #[.int .u32 (B : Int)] from rfl)
  have HS21 := Lib.hid (show (Tryz.prog.info? 38).map (·.size) = some (V21 (lns (B : Int))).size by rw [V21_size, lns_len hB]; exact llInfo)
  have HLAST := Lib.hid (VP_last (lns (B : Int)) (B : Int) (lns_len hB))
  obtain ⟨v', rfl⟩ := Int.eq_ofNat_of_zero_le wv.1
  have hw : v' < 16777216 := by have := wv.2; omega
  have HWP := Lib.hid (fun W (hT : TabB W) => iWordPlaces_ok (v' : Int) W wv hT)
  rw [Int.toNat_natCast] at HWP
  have hmax : (plI v').length ≤ maxLen := by
    have := pl_len v'
    unfold plI maxLen
    rw [List.length_map]; omega
  have hall : ((plI v').all fun x => ptB (B : Int) x) = true := by rw [all_pts hw, h0]; rfl
  have hlen : ((plI v').length : Int) = n := by have := wt_plI (v' : Int) (by omega); simpa [hn] using this
  have hwof : wof (plI v') = some (v' : Int) := wof_plI (v' : Int) wv
  have HPTS := Lib.hid (fun A c W ha => pts_yes _ B hB.1 HSZ.out HLAST.out A c (plI v') _ W ha hmax hall hwof wv.1 wv.2)
  rw [hlen] at HPTS
  have HARC := Lib.hid (fun W => isArc_calls (lns (B : Int)) (lns_len hB) (fun j hj => lns_W hB j hj) (v' : Int) wv W)
  rw [show ((lns (B : Int)).all fun x => decide (wt (andI x (v' : Int)) ≤ 2)) = false from hth] at HARC
  clear hn h0 hth hall hwof hlen hmax
  generalize plI v' = L at *
  generalize VP (lns (B : Int)) (B : Int) = T at *
  generalize V21 (lns (B : Int)) = VL at *
  generalize (v' : Int) = v at *
  have HZB := Lib.hid plBuilt0
  have HSZ0 := Lib.hid (VP_size (List.replicate 21 0) 0 (by simp))
  have HALL0 := Lib.hid (VP_all (List.replicate 21 0) 0)
  generalize VP (List.replicate 21 0) 0 = Z0 at *
  have HI0 := Lib.hid (show (Tryz.prog.info? 40).map (·.size) = some Z0.size by rw [HSZ0.out]; exact plInfo)
  have HI := Lib.hid (show (Tryz.prog.info? 40).map (·.size) = some T.size by rw [HSZ.out]; exact plInfo)
  have HT := Lib.hid hT
  have HTL := Lib.hid hT.lt
  clear hT
  go_enter Tryz.func32, Tryz.ntmps32
  go_wp2_with fail
  have HBL1 := Lib.hid ((Below.refl w.heap.size w).alloc (Nat.le_refl _) (.cells #[.int .u32 0, .int .u32 0, .int .u32 0, .int .u32 0, .int .u32 0, .int .u32 0, .int .u32 0, .int .u32 0, .int .u32 0, .int .u32 0, .int .u32 0, .int .u32 0, .int .u32 0, .int .u32 0, .int .u32 0, .int .u32 0, .int .u32 0, .int .u32 0, .int .u32 0, .int .u32 0, .int .u32 0, .int .u32 0] 40))
  have HG1 := Lib.hid (show (w.alloc (.cells #[.int .u32 0, .int .u32 0, .int .u32 0, .int .u32 0, .int .u32 0, .int .u32 0, .int .u32 0, .int .u32 0, .int .u32 0, .int .u32 0, .int .u32 0, .int .u32 0, .int .u32 0, .int .u32 0, .int .u32 0, .int .u32 0, .int .u32 0, .int .u32 0, .int .u32 0, .int .u32 0, .int .u32 0, .int .u32 0] 40)).heap[w.heap.size]? = some (.cells #[.int .u32 0, .int .u32 0, .int .u32 0, .int .u32 0, .int .u32 0, .int .u32 0, .int .u32 0, .int .u32 0, .int .u32 0, .int .u32 0, .int .u32 0, .int .u32 0, .int .u32 0, .int .u32 0, .int .u32 0, .int .u32 0, .int .u32 0, .int .u32 0, .int .u32 0, .int .u32 0, .int .u32 0, .int .u32 0] 40 (0, 0)) from Blk.new w _ _)
  have hlt1 : w.heap.size < (w.alloc (.cells #[.int .u32 0, .int .u32 0, .int .u32 0, .int .u32 0, .int .u32 0, .int .u32 0, .int .u32 0, .int .u32 0, .int .u32 0, .int .u32 0, .int .u32 0, .int .u32 0, .int .u32 0, .int .u32 0, .int .u32 0, .int .u32 0, .int .u32 0, .int .u32 0, .int .u32 0, .int .u32 0, .int .u32 0, .int .u32 0] 40)).heap.size := by simp
  generalize w.alloc (.cells #[.int .u32 0, .int .u32 0, .int .u32 0, .int .u32 0, .int .u32 0, .int .u32 0, .int .u32 0, .int .u32 0, .int .u32 0, .int .u32 0, .int .u32 0, .int .u32 0, .int .u32 0, .int .u32 0, .int .u32 0, .int .u32 0, .int .u32 0, .int .u32 0, .int .u32 0, .int .u32 0, .int .u32 0, .int .u32 0] 40) = W1 at *
  refine (HPF.out _ (HT.out.two.below HBL1.out HT.out.two.lt)).mono ?_
  rintro e w2 ⟨rfl, b2⟩
  have HG2 := Lib.hid ((b2.block _ hlt1).trans HG1.out)
  have B2 := HBL1.out.trans (b2.mono HBL1.out.size)
  have hlt2 : w.heap.size < w2.heap.size := Nat.lt_of_lt_of_le hlt1 b2.size
  clear b2 hlt1
  go_wp2_with (first
    | (refine wpList_store_row rfl 40 _ _ rfl w2.heap.size T rfl rfl 40 _ (Blk.new w2 _ _) HI.out (by rw [HSZ.out]; rfl) HALL.out ?_; have hcg := setRow_heap (w2.alloc (.cells #[.int .u32 0, .int .u32 0, .int .u32 0, .int .u32 0, .int .u32 0, .int .u32 0, .int .u32 0, .int .u32 0, .int .u32 0, .int .u32 0, .int .u32 0, .int .u32 0, .int .u32 0, .int .u32 0, .int .u32 0, .int .u32 0, .int .u32 0, .int .u32 0, .int .u32 0, .int .u32 0, .int .u32 0, .int .u32 0] 40)) w2.heap.size _ T 40 (0, 0) (Blk.new w2 _ _); have hb3 := below_rowP (B2.alloc B2.size (.cells #[.int .u32 0, .int .u32 0, .int .u32 0, .int .u32 0, .int .u32 0, .int .u32 0, .int .u32 0, .int .u32 0, .int .u32 0, .int .u32 0, .int .u32 0, .int .u32 0, .int .u32 0, .int .u32 0, .int .u32 0, .int .u32 0, .int .u32 0, .int .u32 0, .int .u32 0, .int .u32 0, .int .u32 0, .int .u32 0] 40)) B2.size T; have hg3 := (setRow_other (w2.alloc (.cells #[.int .u32 0, .int .u32 0, .int .u32 0, .int .u32 0, .int .u32 0, .int .u32 0, .int .u32 0, .int .u32 0, .int .u32 0, .int .u32 0, .int .u32 0, .int .u32 0, .int .u32 0, .int .u32 0, .int .u32 0, .int .u32 0, .int .u32 0, .int .u32 0, .int .u32 0, .int .u32 0, .int .u32 0, .int .u32 0] 40)) w2.heap.size w.heap.size T (by omega)).trans ((heap_alloc_old w2 (.cells #[.int .u32 0, .int .u32 0, .int .u32 0, .int .u32 0, .int .u32 0, .int .u32 0, .int .u32 0, .int .u32 0, .int .u32 0, .int .u32 0, .int .u32 0, .int .u32 0, .int .u32 0, .int .u32 0, .int .u32 0, .int .u32 0, .int .u32 0, .int .u32 0, .int .u32 0, .int .u32 0, .int .u32 0, .int .u32 0] 40) hlt2).trans HG2.out); generalize (w2.alloc (.cells #[.int .u32 0, .int .u32 0, .int .u32 0, .int .u32 0, .int .u32 0, .int .u32 0, .int .u32 0, .int .u32 0, .int .u32 0, .int .u32 0, .int .u32 0, .int .u32 0, .int .u32 0, .int .u32 0, .int .u32 0, .int .u32 0, .int .u32 0, .int .u32 0, .int .u32 0, .int .u32 0, .int .u32 0, .int .u32 0] 40)).setRow w2.heap.size T = w3 at *; have HG3 := Lib.hid hg3; have HCG := Lib.hid hcg; have HB3 := Lib.hid hb3; clear hcg hb3 hg3))
  have hlt3 : w2.heap.size < w3.heap.size := by
    rcases Nat.lt_or_ge w2.heap.size w3.heap.size with h | h
    · exact h
    · have := HCG.out; rw [Array.getElem?_eq_none h] at this; cases this
  refine (HWP.out _ (HT.out.1.below HB3.out (show _ < _ from Nat.lt_of_le_of_lt (by first | exact Nat.le_refl _ | decide | (unfold tab3EG tab3G; omega)) HTL.out))).mono ?_
  rintro e w4 ⟨lv, rfl, o4, b4⟩
  obtain ⟨A4, c4, rfl⟩ := o4.slice
  have hlt0 : w.heap.size < w3.heap.size := by omega
  have B4 := HB3.out.trans (b4.mono HB3.out.size)
  have HCG4 := Lib.hid ((b4.block _ hlt3).trans HCG.out)
  have HG4 := Lib.hid ((b4.block _ hlt0).trans HG3.out)
  have HB4 := Lib.hid B4
  have hlt4 : w2.heap.size < w4.heap.size := Nat.lt_of_lt_of_le hlt3 b4.size
  have hlt40 : w.heap.size < w4.heap.size := Nat.lt_of_lt_of_le hlt0 b4.size
  have HPC := Lib.hid (HPTS.out A4 c4 w4 o4.rds)
  clear b4 B4 o4
  go_wp2_with (first
    | (refine wpList_load_row rfl 40 _ rfl w2.heap.size rfl 40 T (0, 0) _ HCG4.out Tryz.underlying40 rfl HI.out ?_))
  refine HPC.out.mono ?_
  rintro e w5 ⟨rfl, b5⟩
  have HCG5 := Lib.hid (((b5.block _ hlt4).trans HCG4.out).trans (show some (Obj.cells T 40 (0, 0)) = some (.cells (VL ++ #[.int .u32 (B : Int)]) 40 (0, 0)) by rw [HVP.out]))
  have HG5 := Lib.hid ((b5.block _ hlt40).trans HG4.out)
  have HB5 := Lib.hid (HB4.out.trans (b5.mono HB4.out.size))
  have hlt5 : w2.heap.size < w5.heap.size := Nat.lt_of_lt_of_le hlt4 b5.size
  have hlt50 : w.heap.size < w5.heap.size := Nat.lt_of_lt_of_le hlt40 b5.size
  clear b5
  go_wp2_with (refine wpList_load_partW (by first | rfl | (simp [go_sem]; done)) 38 _ rfl w2.heap.size rfl 40 VL #[.int .u32 (B : Int)] (0, 0) _ HCG5.out Tryz.underlying38 rfl HS21.out ?_)
  refine (HARC.out _).mono ?_
  rintro e w6 ⟨rfl, b6⟩
  have HG6 := Lib.hid ((b6.block _ hlt50).trans HG5.out)
  have HB6 := Lib.hid (HB5.out.trans (b6.mono HB5.out.size))
  clear b6
  go_wp2_with (first
    | (refine wpList_build0 rfl 40 rfl Z0 HZB.out ?_)
    | (refine wpList_store_row rfl 40 _ _ rfl w.heap.size Z0 rfl rfl 40 _ HG6.out HI0.out (by rw [HSZ0.out]; rfl) HALL0.out ?_))
  exact bodyPost_ret (results_ctt rfl rfl rfl rfl (setRow_heap _ _ _ _ _ _ HG6.out : Blk _ _ _ _) Tryz.underlying40 rfl HI0.out) rfl ⟨rfl, below_rowP HB6.out (Nat.le_refl _) Z0⟩
theorem arcFrom_no (b v n : Int) (w : World) (hT : Tab3E w) (h : arcB b v n = false) :
    Calls Tryz.prog 32 #[.int .i64 b, .int .i64 v, .int .i64 n] w fun e w' => e = .returned (.tuple #[.agg (VP (List.replicate 21 0) 0), .int .u32 0, .bool false]) ∧ Below w.heap.size w w' := by
  rcases hb : baseB b with _ | _
  · exact arcFrom_base b v n w hb
  obtain ⟨B, rfl, hB⟩ := baseB_nat hb
  rcases hv : wordB v with _ | _
  · exact arcFrom_word B v n w hT hB hv
  have wv : IsW v := (wordB_iff v).1 hv
  by_cases hn : wt v = n
  · by_cases h0 : andI v (B : Int) = 0
    · rcases hth : thinB (B : Int) v with _ | _
      · exact arcFrom_thick B v n w hT hB wv hn h0 hth
      · unfold arcB at h
        rw [hb, hv, hth, decide_eq_true hn, decide_eq_true h0] at h
        exact absurd h (by decide)
    · exact arcFrom_pts B v n w hT hB wv (.inr h0)
  · exact arcFrom_pts B v n w hT hB wv (.inl hn)
set_option maxHeartbeats 2000000 in
theorem iPlaneOval_calls (b v : Int) (w : World) (hT : Tab3E w) :
    Calls Tryz.prog 16 #[.int .i64 b, .int .i64 v] w fun e w' => e = .returned (.bool (plOval b v)) ∧ Below w.heap.size w w' := by
  unfold plOval
  rcases h : arcB b v 6 with _ | _
  · have HA := Lib.hid (arcFrom_no b v 6 w hT h)
    clear h
    have HSZ := Lib.hid (VP_size (List.replicate 21 0) 0 (by simp))
    have HALL := Lib.hid (VP_all (List.replicate 21 0) 0)
    generalize VP (List.replicate 21 0) 0 = Z0 at *
    have HI := Lib.hid (show (Tryz.prog.info? 40).map (·.size) = some Z0.size by rw [HSZ.out]; exact plInfo)
    go_enter Tryz.func16, Tryz.ntmps16
    go_wp2_with fail
    refine HA.out.mono ?_
    rintro e w2 ⟨rfl, b2⟩
    go_wp2_with (refine wpList_store_row rfl 40 _ _ rfl w2.heap.size Z0 rfl rfl 40 _ (Blk.new w2 _ _) HI.out (by rw [HSZ.out]; rfl) HALL.out ?_)
    go_ret
    exact ⟨rfl, below_rowP (b2.alloc b2.size _) b2.size Z0⟩
  · obtain ⟨B, rfl, hB⟩ := baseB_nat (arc_parts h).1
    have HA := Lib.hid (arcFrom_yes B v 6 w hT hB h)
    clear h
    have HSZ := Lib.hid (VP_size (lns (B : Int)) (B : Int) (lns_len hB))
    have HALL := Lib.hid (VP_all (lns (B : Int)) (B : Int))
    generalize VP (lns (B : Int)) (B : Int) = T at *
    have HI := Lib.hid (show (Tryz.prog.info? 40).map (·.size) = some T.size by rw [HSZ.out]; exact plInfo)
    go_enter Tryz.func16, Tryz.ntmps16
    go_wp2_with fail
    refine HA.out.mono ?_
    rintro e w2 ⟨rfl, b2⟩
    go_wp2_with (refine wpList_store_row rfl 40 _ _ rfl w2.heap.size T rfl rfl 40 _ (Blk.new w2 _ _) HI.out (by rw [HSZ.out]; rfl) HALL.out ?_)
    go_ret
    exact ⟨rfl, below_rowP (b2.alloc b2.size _) b2.size T⟩
end Go.Proofs.YtaopcfiaffmfhabGreatDoor
