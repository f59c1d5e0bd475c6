/- The lattice of the program: rests, sums, the words of the rests, LatticeIn. -/
import Derived.Test.YtmeejnkpaiinaabDoorC163
import Derived.Test.YtmeejnkpaiinaabDoorC165
import Derived.Test.YtmeejnkpaiinaabDoorC27
import Derived.Deep.RegionHeld3
namespace Go.Proofs.YtmeejnkpaiinaabDoor
open Go.RowKit
set_option linter.unusedVariables false
set_option linter.unusedSimpArgs false
attribute [local irreducible] cN syn

theorem wpList_load_rowW {P : Program} {ops : Array Oper} {rest : List Oper} {o : Oper} {a : Act} {w : World} {Q : Exit → Act → World → Prop} (hwd : Region.wanted o (yielded ops a.tmps) = true) (ty : TypeId) (x : Operand) (ho : o.op = .load ty x)
    (g : Nat) (hx : a.eval x = .pointer (some ⟨g, 0, none⟩)) (t : TypeId) (cs : Array Value) (fr : Nat × Nat) (d : TypeDesc) (hg : w.heap[g]? = some (.cells cs t fr))
    (hu : P.underlying ty = some d) (hd : (match d with | .struct _ | .array _ _ => true | _ => false) = true) (hi : (P.info? ty).map (·.size) = some cs.size)
    (h : wpList P ops Q rest (a.put o.dst (.agg cs)) w) : wpList P ops Q (o :: rest) a w :=
  wpList_step fun K hK => by
    simp only [hwd, if_true]
    have hk := hK _ _ h
    unfold Oper.wp execOp
    simp only [ho, hx, Instr.loadAt, Instr.sureAddr, Sem.run_bind, Sem.run_pure, Result.andThen_ok, run_loadVar_row w g t ty cs fr d hg hu hd hi]
    exact hk
theorem tmod_b2 (n b : Int) (hb : b = 4 ∨ b = 8) : -b < n.tmod b ∧ n.tmod b < b ∧ (n.tmod b + b).tmod b = n % b := by
  have hp : ∀ m : Int, 0 ≤ m → m.tmod b = m % b := fun m h => Int.tmod_eq_emod_of_nonneg h
  have h1 : -b < n.tmod b ∧ n.tmod b < b ∧ ((n.tmod b) - n) % b = 0 := by
    by_cases h : 0 ≤ n
    · rw [hp n h]; rcases hb with rfl | rfl <;> omega
    · have e : n.tmod b = -((-n) % b) := by rw [← hp (-n) (by omega), Int.neg_tmod, Int.neg_neg]
      rw [e]; rcases hb with rfl | rfl <;> omega
  refine ⟨h1.1, h1.2.1, ?_⟩
  rw [hp _ (by omega)]
  rcases hb with rfl | rfl <;> omega
theorem restOf_calls (n b : Int) (w : World) (hb : b = 4 ∨ b = 8) :
    Calls Tryd.prog 70 #[.int .i64 n, .int .i64 b] w fun e w' => e = .returned (.int .i64 (n % b)) ∧ w = w' := by
  obtain ⟨t0, t1, t2⟩ := tmod_b2 n b hb
  have hw1 : wrap64 (n.tmod b) = n.tmod b := wrap64_of _ (by omega) (by omega)
  have hw2 : wrap64 (n.tmod b + b) = n.tmod b + b := wrap64_of _ (by omega) (by omega)
  have hw3 : wrap64 (n % b) = n % b := wrap64_of _ (by rcases hb with rfl | rfl <;> omega) (by rcases hb with rfl | rfl <;> omega)
  have hb0 : (b == 0) = false := by rcases hb with rfl | rfl <;> rfl
  have hb1 : b ≠ 0 := by omega
  clear hb t0 t1
  go_enter Tryd.func70, Tryd.ntmps70
  go_wp2
  go_ret
  exact ⟨rfl, rfl⟩
set_option maxRecDepth 100000 in
set_option maxHeartbeats 1000000 in
theorem vsum_calls (xs : List Int) (w : World) (hx : vecB xs = true) :
    Calls Tryd.prog 71 #[.agg (VL xs)] w fun e w' => e = .returned (.int .i64 (sumZ 24 (atL xs))) ∧ Below w.heap.size w w' := by
  have HIX := Lib.hid (fun k hk W => vdx24 xs (vecB_len hx) k hk W)
  have HR := Lib.hid (fun k => sumV_rng hx k)
  have HRG := Lib.hid (fun k => vecB_rng hx k)
  obtain ⟨S, hS⟩ : ∃ S : Nat → Int, (fun k => sumZ k (atL xs)) = S := ⟨_, rfl⟩
  have hSk : ∀ k, sumZ k (atL xs) = S k := fun k => by rw [← hS]
  have HSS := Lib.hid (fun k => show S k + atL xs k = S (k + 1) by rw [← hSk, ← hSk]; rfl)
  have HS0 := Lib.hid (show S 0 = 0 by rw [← hSk]; rfl)
  simp only [hSk] at HR ⊢
  have HN := Lib.hid (Blk.new w 48 (VL xs))
  have HB := Lib.hid ((Below.refl w.heap.size w).alloc (Nat.le_refl _) (.cells (VL xs) 48))
  have HX := Lib.hid (vcInfoL xs (vecB_len hx))
  generalize hV : VL xs = V at *
  clear hx hV hS hSk
  go_enter Tryd.func71, Tryd.ntmps71
  go_wp2_with (refine wpList_load_row rfl 48 _ rfl w.heap.size rfl 48 V (0, 0) _ HN.out Tryd.underlying48 rfl HX.out ?_)
  go_loopw [3, 7] (fun s i wr => ∃ p : Nat, p ≤ 24 ∧ i = .int .i64 p ∧ s = .int .i64 (S p) ∧ w.alloc (.cells V 48) = wr) (fun _ i _ => 24 - (intOf i).toNat)
  case atStart => exact ⟨0, by omega, rfl, by rw [HS0.out], rfl⟩
  case round =>
    obtain ⟨p, hp, rfl, rfl, hww⟩ := hrel
    subst hww
    by_cases hlt : p < 24
    · have hp1 : (0 : Int) ≤ (p : Int) := by omega
      have hp2 : (p : Int) < 24 := by omega
      have hix := HIX.out p hlt
      have hrg := HRG.out p
      have h1 := HR.out p
      have h2 := HR.out (p + 1)
      have HS := Lib.hid (HSS.out p)
      obtain ⟨T, hT⟩ : ∃ T, S (p + 1) = T := ⟨_, rfl⟩
      rw [hT] at HS h2
      have HT := Lib.hid hT
      clear hT
      generalize S p = s at *
      generalize atL xs p = x at *
      have hw2 : wrap64 (s + x) = s + x := wrap64_of _ (by omega) (by omega)
      go_wp2_with fail
      go_roundw
      case rel => exact ⟨p + 1, by omega, by go_num, by rw [HT.out, ← HS.out], by first | exact rfl | trivial⟩
      case measure => simp [intOf]; omega
    · obtain rfl : p = 24 := by omega
      go_wp2_with fail
      go_ret
      exact ⟨rfl, HB.out⟩
/-! ### Rows of words -/
def VU (L : List Int) : Array Value := (L.map (Value.int .u32)).toArray
theorem VU_size (L : List Int) : (VU L).size = L.length := by simp [VU]
theorem VU_at {w : World} {g j : Nat} {t : TypeId} (xs : List Int) (hj : j < xs.length) (hg : w.heap[g]? = some (.cells (VU xs) t (0, 0))) : w.cell? ⟨g, j, none⟩ = some (.int .u32 (xs.getD j 0)) := by
  rw [Lib.cell_of_heap hg]
  simp [VU, hj]
theorem VU_set {w : World} {g j : Nat} {t : TypeId} (xs : List Int) (x : Int) (hg : w.heap[g]? = some (.cells (VU xs) t (0, 0))) : (w.setCell ⟨g, j, none⟩ (.int .u32 x)).heap[g]? = some (.cells (VU (xs.set j x)) t (0, 0)) := by
  have := heap_setCell_same w g j (VU xs) t (.int .u32 x) hg
  unfold VU at this ⊢
  rw [List.setIfInBounds_toArray, ← List.map_set] at this
  exact this
theorem VU_all (L : List Int) : (VU L).all (·.oneCell') = true := by
  rw [Array.all_eq_true_iff_forall_mem]
  intro x hx
  simp [VU] at hx
  obtain ⟨a, _, rfl⟩ := hx
  rfl
theorem row_setU {w V X : World} {g j : Nat} {t0 : TypeId} {cs Z : List Int} {t : Int} (h3 : V.heap[g]? = some (.cells (VU cs) t0 (0, 0))) (hg : w.heap.size ≤ g) (hB : Below w.heap.size w V) (hZ : cs.set j t = Z)
    (hX : X.heap = (V.setCell ⟨g, j, none⟩ (.int .u32 t)).heap) (hX2 : X.os = V.os ∧ X.tape = V.tape ∧ X.output = V.output) :
    X.heap[g]? = some (.cells (VU Z) t0 (0, 0)) ∧ (∀ q, q ≠ g → X.heap[q]? = V.heap[q]?) ∧ Below w.heap.size w X := by
  have k1 : ∀ q, q ≠ g → X.heap[q]? = V.heap[q]? := fun q hq => by rw [hX]; exact Below.heap_setCell V _ _ q hq
  have a3 := VU_set (j := j) cs t h3
  rw [hZ, ← hX] at a3
  have b0 : Below w.heap.size V (V.setCell ⟨g, j, none⟩ (.int .u32 t)) := (Below.refl _ V).setCell (show w.heap.size ≤ g from hg) _
  exact ⟨a3, k1, hB.trans ⟨hX2.1, hX2.2.1, hX2.2.2, by rw [hX]; exact b0.size, fun q hq => by rw [hX]; exact b0.block q hq⟩⟩
def z4 : List Int := [0, 0, 0, 0]
theorem xorI_powN (s q : Nat) : xorI (s : Int) (powI (q : Int)) = ((s ^^^ 2 ^ q : Nat) : Int) := by
  unfold xorI powI
  have e2 : ((2 : Int) ^ ((q : Nat) : Int).toNat).toNat = 2 ^ q := by
    rw [Int.toNat_natCast, Int.toNat_pow_of_nonneg (by omega)]
    rfl
  rw [e2, Int.toNat_natCast]
theorem w4_rng (v : Nat → Int) (k r : Nat) (hk : k ≤ 24) : 0 ≤ (w4 v k).getD r 0 ∧ (w4 v k).getD r 0 ≤ 16777215 := by
  have h : ∀ r : Int, restN v r k < 16777216 := fun r => Nat.lt_of_lt_of_le (restN_lt v r k) (by rw [show 16777216 = 2 ^ 24 by decide]; exact Nat.pow_le_pow_right (by decide) hk)
  have h0 := h 0
  have h1 := h 1
  have h2 := h 2
  have h3 := h 3
  match r with
  | 0 => show 0 ≤ ((restN v 0 k : Nat) : Int) ∧ ((restN v 0 k : Nat) : Int) ≤ 16777215; omega
  | 1 => show 0 ≤ ((restN v 1 k : Nat) : Int) ∧ ((restN v 1 k : Nat) : Int) ≤ 16777215; omega
  | 2 => show 0 ≤ ((restN v 2 k : Nat) : Int) ∧ ((restN v 2 k : Nat) : Int) ≤ 16777215; omega
  | 3 => show 0 ≤ ((restN v 3 k : Nat) : Int) ∧ ((restN v 3 k : Nat) : Int) ≤ 16777215; omega
  | n + 4 => show (0 : Int) ≤ 0 ∧ (0 : Int) ≤ 16777215; omega
theorem wdInfo : (Tryd.prog.info? 76).map (·.size) = some 4 := by kernel_rfl
theorem wdInfoL (L : List Int) (h : L.length = 4) : (Tryd.prog.info? 76).map (·.size) = some (VU L).size := by rw [VU_size, h]; exact wdInfo
set_option maxRecDepth 100000 in
set_option maxHeartbeats 2000000 in
theorem restWords_calls (xs : List Int) (w : World) (hl : xs.length = 24) :
    Calls Tryd.prog 68 #[.agg (VL xs)] w fun e w' => e = .returned (.agg (VU (w4 (atL xs) 24))) ∧ Below w.heap.size w w' := by
  have HIX := Lib.hid (fun k hk W => vdx24 xs hl k hk W)
  have HX := Lib.hid (vcInfoL xs hl)
  have HWS := Lib.hid (fun k => w4_set (atL xs) k)
  have HWR := Lib.hid (fun k r hk => w4_rng (atL xs) k r hk)
  have HW0 := Lib.hid (show w4 (atL xs) 0 = z4 from rfl)
  have HWI := Lib.hid (wdInfoL (w4 (atL xs) 24) rfl)
  have HWA := Lib.hid (VU_all (w4 (atL xs) 24))
  have HWZ := Lib.hid (show (VU z4).size = (VU (w4 (atL xs) 24)).size from rfl)
  generalize hVX : VL xs = VX at *
  clear hVX hl
  go_enter Tryd.func68, Tryd.ntmps68
  go_wp2_with (first
    | (refine wpList_load_row rfl 48 _ rfl w.heap.size rfl 48 VX (0, 0) _ (three_heap w _ _ _).1 Tryd.underlying48 rfl HX.out ?_))
  go_loopw [8] (fun i wr => ∃ p : Nat, p ≤ 24 ∧ i = .int .i64 p ∧ Hid (wr.heap[w.heap.size + 1]? = some (.cells (VU z4) 76 (0, 0))) ∧ Hid (wr.heap[w.heap.size + 2]? = some (.cells (VU (w4 (atL xs) p)) 76 (0, 0))) ∧ Hid (Below w.heap.size w wr)) (fun i _ => 24 - (intOf i).toNat)
  case atStart => exact ⟨0, by omega, rfl, Lib.hid (three_heap w _ _ _).2.1, Lib.hid (by rw [HW0.out]; exact (three_heap w _ _ _).2.2.1), Lib.hid (three_heap w _ _ _).2.2.2⟩
  case round =>
    obtain ⟨p, hp, rfl, h1, h2, hbl⟩ := hrel
    by_cases hlt : p < 24
    · have hp1 : (0 : Int) ≤ (p : Int) := by omega
      have hp2 : (p : Int) < 24 := by omega
      have hp3 : (p : Int) ≤ 23 := by omega
      have hix := HIX.out p hlt
      obtain ⟨r, hr, er, eg, _, es⟩ := HWS.out p
      have hrn := HWR.out p r hp
      rw [eg] at hrn
      have hcx := VU_at (j := r) _ (show r < (w4 (atL xs) p).length from hr) h2.out
      rw [eg] at hcx
      have hfx : wr.frozen? ⟨w.heap.size + 2, r, none⟩ = false := Lib.frozen_of_heap h2.out _
      have HF := Lib.hid (fun X => row_setU (X := X) h2.out (by omega) hbl.out es)
      have hr1 : (0 : Int) ≤ (r : Int) := by omega
      have hr2 : (r : Int) < 4 := by omega
      have HR := Lib.hid (fun W => restOf_calls (atL xs p) 4 W (.inl rfl))
      rw [er] at HR
      have hpl := pow_val (p : Int) hp1 hp3
      have HAD := Lib.hid (fun W => word_add ((restN (atL xs) (r : Int) p : Nat) : Int) (powI (p : Int)) W hrn.1 hrn.2 (by omega) (by omega))
      rw [xorI_powN] at HAD
      have HAT := Lib.hid (fun W => wordAt_calls (p : Int) W hp1 hp3)
      clear er eg es hrn hpl
      generalize restN (atL xs) (r : Int) p = R at *
      generalize atL xs p = x at *
      generalize R ^^^ 2 ^ p = R2 at *
      generalize powI (p : Int) = pw at *
      go_wp2_with (go_at_call 70; refine (HR.out _).mono ?_; rintro e w' ⟨rfl, rfl⟩)
      go_region_with (first
        | (go_at_call 83; refine (HAT.out _).mono ?_; rintro e w' ⟨rfl, rfl⟩)
        | (go_at_call 69; refine (HAD.out _).mono ?_; rintro e w' ⟨rfl, rfl⟩))
      all_goals
        go_wp2_with fail
        go_roundw
        case rel =>
          refine ⟨p + 1, by omega, by go_num, Lib.hid ?_, Lib.hid ?_, Lib.hid ?_⟩
          · exact ((HF.out _ rfl ⟨rfl, rfl, rfl⟩).2.1 _ (by omega)).trans h1.out
          · exact (HF.out _ rfl ⟨rfl, rfl, rfl⟩).1
          · exact (HF.out _ rfl ⟨rfl, rfl, rfl⟩).2.2.drew
        case measure => simp [intOf]; omega
    · obtain rfl : p = 24 := by omega
      go_wp2_with (first
        | (refine wpList_load_row rfl 76 _ rfl (w.heap.size + 2) rfl 76 (VU (w4 (atL xs) 24)) (0, 0) _ h2.out Tryd.underlying76 rfl HWI.out ?_)
        | (refine wpList_store_row rfl 76 _ _ rfl (w.heap.size + 1) (VU (w4 (atL xs) 24)) rfl rfl 76 (VU z4) h1.out HWI.out HWZ.out HWA.out ?_))
      exact bodyPost_ret (results_c rfl rfl (setRow_heap _ _ _ _ _ _ h1.out : Blk _ _ _ _) Tryd.underlying76 rfl HWI.out) rfl ⟨rfl, bel_row hbl.out (by omega)⟩
theorem wdx4 (L : List Int) (h : L.length = 4) (k : Nat) (hk : k < 4) (W : World) : (Instr.index 76 (.agg (VU L)) (.int .i64 (k : Int))).run Tryd.prog W = .ok (.int .u32 (L.getD k 0)) W := by
  match L, h with
  | [x0, x1, x2, x3], _ =>
    match k, hk with
    | 0, _ => exact (show _ = _ by kernel_rfl)
    | 1, _ => exact (show _ = _ by kernel_rfl)
    | 2, _ => exact (show _ = _ by kernel_rfl)
    | 3, _ => exact (show _ = _ by kernel_rfl)
theorem inF_w4 (v : Nat → Int) : inF v = (codeInB ((w4 v 24).getD 0 0) && codeInB ((w4 v 24).getD 1 0) && codeInB ((w4 v 24).getD 2 0) && codeInB ((w4 v 24).getD 3 0) && (if xorI ((w4 v 24).getD 1 0) ((w4 v 24).getD 3 0) = 0 then decide (sumZ 24 v % 8 = 0) else if xorI ((w4 v 24).getD 1 0) ((w4 v 24).getD 3 0) = 16777215 then decide (sumZ 24 v % 8 = 4) else false)) := by
  have e : xorI ((w4 v 24).getD 1 0) ((w4 v 24).getD 3 0) = ((restN v 1 24 ^^^ restN v 3 24 : Nat) : Int) := by
    show xorI ((restN v 1 24 : Nat) : Int) ((restN v 3 24 : Nat) : Int) = _
    simp [xorI]
  rw [e]
  have e1 : (((restN v 1 24 ^^^ restN v 3 24 : Nat) : Int) = 0) = (restN v 1 24 ^^^ restN v 3 24 = 0) := by rw [eq_iff_iff]; omega
  have e2 : (((restN v 1 24 ^^^ restN v 3 24 : Nat) : Int) = 16777215) = (restN v 1 24 ^^^ restN v 3 24 = 16777215) := by rw [eq_iff_iff]; omega
  simp only [e1, e2]
  rfl
theorem inF_no (v : Nat → Int) (k : Nat) (hk : k < 4) (h : codeInB ((w4 v 24).getD k 0) = false) : inF v = false := by
  rw [inF_w4]
  match k, hk with
  | 0, _ => rw [h]; rfl
  | 1, _ => rw [h]; simp
  | 2, _ => rw [h]; simp
  | 3, _ => rw [h]; simp
theorem inF_rest (v : Nat → Int) (h : ∀ k, k < 4 → codeInB ((w4 v 24).getD k 0) = true) : inF v = (if xorI ((w4 v 24).getD 1 0) ((w4 v 24).getD 3 0) = 0 then decide (sumZ 24 v % 8 = 0) else if xorI ((w4 v 24).getD 1 0) ((w4 v 24).getD 3 0) = 16777215 then decide (sumZ 24 v % 8 = 4) else false) := by
  rw [inF_w4, h 0 (by omega), h 1 (by omega), h 2 (by omega), h 3 (by omega)]
  rfl
set_option maxRecDepth 100000 in
set_option maxHeartbeats 4000000 in
theorem inLattice_calls (xs : List Int) (w : World) (hx : vecB xs = true) (hT : Tab3 w) :
    Calls Tryd.prog 36 #[.agg (VL xs)] w fun e w' => e = .returned (.bool (inF (atL xs))) ∧ Below w.heap.size w w' := by
  have hT0 := hT.lt
  have HRW := Lib.hid (fun W => restWords_calls xs W (vecB_len hx))
  have HSU := Lib.hid (fun W => vsum_calls xs W hx)
  have HX := Lib.hid (vcInfoL xs (vecB_len hx))
  have HN := Lib.hid (Blk.new w 48 (VL xs))
  have HB := Lib.hid ((Below.refl w.heap.size w).alloc (Nat.le_refl _) (.cells (VL xs) 48))
  have HIX := Lib.hid (fun k hk W => wdx4 (w4 (atL xs) 24) rfl k hk W)
  have HWR := Lib.hid (fun r => w4_rng (atL xs) 24 r (Nat.le_refl _))
  have HWI := Lib.hid (wdInfoL (w4 (atL xs) 24) rfl)
  have HWA := Lib.hid (VU_all (w4 (atL xs) 24))
  have HWZ := Lib.hid (show (VU z4).size = (VU (w4 (atL xs) 24)).size from rfl)
  have HWL := Lib.hid (show (w4 (atL xs) 24).length = 4 from rfl)
  have HNO := Lib.hid (inF_no (atL xs))
  have HRE := Lib.hid (inF_rest (atL xs))
  have hsr := sumV_rng hx 24
  generalize sumZ 24 (atL xs) = S at *
  generalize inF (atL xs) = b at *
  generalize w4 (atL xs) 24 = ws at *
  generalize hVX : VL xs = VX at *
  clear hVX hx
  go_enter Tryd.func36, Tryd.ntmps36
  go_wp2_with (refine wpList_load_row rfl 48 _ rfl w.heap.size rfl 48 VX (0, 0) _ HN.out Tryd.underlying48 rfl HX.out ?_)
  refine (HRW.out _).mono ?_
  rintro e w1 ⟨rfl, b1⟩
  have G1 := Lib.hid ((b1.block w.heap.size (Array.getElem?_eq_some_iff.1 HN.out).1).trans HN.out)
  have B1 := Lib.hid (HB.out.trans (b1.mono HB.out.size))
  have hsz1 := B1.out.size
  have hlt1 : w.heap.size < w1.heap.size := (Array.getElem?_eq_some_iff.1 G1.out).1
  have N2 := Lib.hid (heap_alloc_new w1 (.cells (VU z4) 76))
  have G2 := Lib.hid ((setRow_other (w1.alloc (.cells (VU z4) 76)) w1.heap.size w.heap.size (VU ws) (by omega)).trans ((Below.heap_alloc _ _ _ (by omega)).trans G1.out))
  have GW := Lib.hid (setRow_heap _ _ _ (VU ws) _ _ N2.out)
  have B2 := Lib.hid (bel_row (T := VU ws) (B1.out.alloc hsz1 (.cells (VU z4) 76)) hsz1)
  clear b1 G1 B1 HN HB
  go_wp2_with (first
    | (refine wpList_store_row rfl 76 _ _ rfl w1.heap.size (VU ws) rfl rfl 76 (VU z4) N2.out HWI.out HWZ.out HWA.out ?_)
    | (refine wpList_load_row rfl 76 _ rfl w1.heap.size rfl 76 (VU ws) (0, 0) _ GW.out Tryd.underlying76 rfl HWI.out ?_))
  go_loopw [9] (fun i wr => ∃ p : Nat, p ≤ 4 ∧ i = .int .i64 p ∧ Hid (∀ j, j < p → codeInB (ws.getD j 0) = true) ∧ Hid (wr.heap[w.heap.size]? = some (.cells VX 48 (0, 0))) ∧ Hid (wr.heap[w1.heap.size]? = some (.cells (VU ws) 76 (0, 0))) ∧ Hid (Below w.heap.size w wr)) (fun i _ => 4 - (intOf i).toNat)
  case atStart => exact ⟨0, by omega, rfl, Lib.hid (fun j hj => by omega), G2, GW, B2⟩
  case round =>
    obtain ⟨p, hp, rfl, hco, h1, h2, hbl⟩ := hrel
    clear G2 GW B2 N2
    have hltv := (Array.getElem?_eq_some_iff.1 h1.out).1
    have hltw := (Array.getElem?_eq_some_iff.1 h2.out).1
    by_cases hlt : p < 4
    · have hp1 : (0 : Int) ≤ (p : Int) := by omega
      have hp2 : (p : Int) < 4 := by omega
      have hix := HIX.out p hlt
      have HIC := Lib.hid (word_inCode (ws.getD p 0) wr (HWR.out p) (hT.below hbl.out hT0))
      have HNP := Lib.hid (HNO.out p hlt)
      have HCP := Lib.hid (show codeInB (ws.getD p 0) = true → ∀ j, j < p + 1 → codeInB (ws.getD j 0) = true by
        intro h j hj
        by_cases e : j = p
        · rw [e]; exact h
        · exact hco.out j (by omega))
      cases hc : codeInB (ws.getD p 0)
      · have HQ := Lib.hid (HNP.out hc)
        rw [hc] at HIC
        clear hc HCP HNP
        generalize ws.getD p 0 = x at *
        go_wp2_with fail
        refine HIC.out.mono ?_
        rintro e w5 ⟨rfl, b5⟩
        go_wp2_with fail
        go_ret
        exact ⟨by rw [HQ.out]; rfl, hbl.out.trans (b5.mono hbl.out.size)⟩
      · have HQ := Lib.hid (HCP.out hc)
        rw [hc] at HIC
        clear hc HCP HNP
        generalize ws.getD p 0 = x at *
        go_wp2_with fail
        refine HIC.out.mono ?_
        rintro e w5 ⟨rfl, b5⟩
        go_wp2_with fail
        go_roundw
        case rel => exact ⟨p + 1, by omega, by go_num, HQ, Lib.hid ((b5.block _ hltv).trans h1.out), Lib.hid ((b5.block _ hltw).trans h2.out), Lib.hid (hbl.out.trans (b5.mono hbl.out.size))⟩
        case measure => simp [intOf]; omega
    · obtain rfl : p = 4 := by omega
      have HQ := Lib.hid (HRE.out hco.out)
      have c1 := VU_at (j := 1) ws (by rw [HWL.out]; omega) h2.out
      have c3 := VU_at (j := 3) ws (by rw [HWL.out]; omega) h2.out
      have r1 := HWR.out 1
      have r3 := HWR.out 3
      generalize ws.getD 1 0 = x1 at *
      generalize ws.getD 3 0 = x3 at *
      have HAD := Lib.hid (fun W => word_add x1 x3 W r1.1 r1.2 r3.1 r3.2)
      generalize xorI x1 x3 = X at *
      have HL := Lib.hid (fun W (h : W = wr) => show W.heap[w.heap.size]? = some (.cells VX 48 (0, 0)) by rw [h]; exact h1.out)
      by_cases hX0 : X = 0
      · have hX1 : (X == 0) = true := by simpa using hX0
        have HQ2 := Lib.hid (show b = decide (S % 8 = 0) by rw [HQ.out, if_pos hX0])
        subst hX0
        go_wp2_with (first
          | (go_at_call 69; refine (HAD.out _).mono ?_; rintro e w' ⟨rfl, rfl⟩)
          | (refine wpList_load_row rfl 48 _ rfl w.heap.size rfl 48 VX (0, 0) _ h1.out Tryd.underlying48 rfl HX.out ?_))
        refine (HSU.out _).mono ?_
        rintro e w5 ⟨rfl, b5⟩
        go_wp2_with (go_at_call 70; refine (restOf_calls S 8 _ (.inr rfl)).mono ?_; rintro e w' ⟨rfl, rfl⟩)
        go_ret
        exact ⟨by rw [HQ2.out]; rfl, hbl.out.trans (b5.mono hbl.out.size)⟩
      · have hX1 : (X == 0) = false := by simpa using hX0
        by_cases hX2 : X = 16777215
        · have HQ2 := Lib.hid (show b = decide (S % 8 = 4) by rw [HQ.out, if_neg hX0, if_pos hX2])
          subst hX2
          go_wp2_with (first
            | (go_at_call 69; refine (HAD.out _).mono ?_; rintro e w' ⟨rfl, rfl⟩)
            | (refine wpList_load_row rfl 48 _ rfl w.heap.size rfl 48 VX (0, 0) _ h1.out Tryd.underlying48 rfl HX.out ?_))
          refine (HSU.out _).mono ?_
          rintro e w5 ⟨rfl, b5⟩
          go_wp2_with (go_at_call 70; refine (restOf_calls S 8 _ (.inr rfl)).mono ?_; rintro e w' ⟨rfl, rfl⟩)
          go_ret
          exact ⟨by rw [HQ2.out]; rfl, hbl.out.trans (b5.mono hbl.out.size)⟩
        · have hX3 : (X == 16777215) = false := by simpa using hX2
          have HQ2 := Lib.hid (show b = false by rw [HQ.out, if_neg hX0, if_neg hX2])
          clear hX0 hX2
          go_wp2_with (go_at_call 69; refine (HAD.out _).mono ?_; rintro e w' ⟨rfl, rfl⟩)
          go_ret
          exact ⟨by rw [HQ2.out]; rfl, hbl.out⟩
end Go.Proofs.YtmeejnkpaiinaabDoor
