/- Joined texts: C171 C172 C220. -/
import Derived.Test.YtiodikflmijhkaaGreatDoorJ29
import Derived.Test.YtiodikflmijhkaaGreatDoorJ30
import Derived.Test.YtiodikflmijhkaaGreatDoorJ10
import Derived.Deep.RegionHeld3
import Derived.Test.YtiodikflmijhkaaGreatDoorJ31
section
namespace Go.Proofs.YtiodikflmijhkaaGreatDoor
open Go.RowKit
set_option linter.unusedVariables false
set_option linter.unusedSimpArgs false
attribute [local irreducible] cN syn

theorem wpList_load_rowW {P : Program} {ops : Array Oper} {rest : List Oper} {o : Oper} {a : Act} {w : World} {Q : Exit → Act → World → Prop} (hwd : Region.wanted o (yielded ops a.tmps) = true) (ty : TypeId) (x : Operand) (ho : o.op = .load ty x)
    (g : Nat) (hx : a.eval x = .pointer (some ⟨g, 0, none⟩)) (t : TypeId) (cs : Array Value) (fr : Nat × Nat) (d : TypeDesc) (hg : w.heap[g]? = some (.cells cs t fr))
    (hu : P.underlying ty = some d) (hd : (match d with | .struct _ | .array _ _ => true | _ => false) = true) (hi : (P.info? ty).map (·.size) = some cs.size)
    (h : wpList P ops Q rest (a.put o.dst (.agg cs)) w) : wpList P ops Q (o :: rest) a w :=
  wpList_step fun K hK => by
    simp only [hwd, if_true]
    have hk := hK _ _ h
    unfold Oper.wp execOp
    simp only [ho, hx, Instr.loadAt, Instr.sureAddr, Sem.run_bind, Sem.run_pure, Result.andThen_ok, run_loadVar_row w g t ty cs fr d hg hu hd hi]
    exact hk
theorem tmod_b2 (n b : Int) (hb : b = 4 ∨ b = 8) : -b < n.tmod b ∧ n.tmod b < b ∧ (n.tmod b + b).tmod b = n % b := by
  have hp : ∀ m : Int, 0 ≤ m → m.tmod b = m % b := fun m h => Int.tmod_eq_emod_of_nonneg h
  have h1 : -b < n.tmod b ∧ n.tmod b < b ∧ ((n.tmod b) - n) % b = 0 := by
    by_cases h : 0 ≤ n
    · rw [hp n h]; rcases hb with rfl | rfl <;> omega
    · have e : n.tmod b = -((-n) % b) := by rw [← hp (-n) (by omega), Int.neg_tmod, Int.neg_neg]
      rw [e]; rcases hb with rfl | rfl <;> omega
  refine ⟨h1.1, h1.2.1, ?_⟩
  rw [hp _ (by omega)]
  rcases hb with rfl | rfl <;> omega
theorem restOf_calls (n b : Int) (w : World) (hb : b = 4 ∨ b = 8) :
    Calls Tryz.prog 53 #[.int .i64 n, .int .i64 b] w fun e w' => e = .returned (.int .i64 (n % b)) ∧ w = w' := by
  obtain ⟨t0, t1, t2⟩ := tmod_b2 n b hb
  have hw1 : wrap64 (n.tmod b) = n.tmod b := wrap64_of _ (by omega) (by omega)
  have hw2 : wrap64 (n.tmod b + b) = n.tmod b + b := wrap64_of _ (by omega) (by omega)
  have hw3 : wrap64 (n % b) = n % b := wrap64_of _ (by rcases hb with rfl | rfl <;> omega) (by rcases hb with rfl | rfl <;> omega)
  have hb0 : (b == 0) = false := by rcases hb with rfl | rfl <;> rfl
  have hb1 : b ≠ 0 := by omega
  clear hb t0 t1
  go_enter Tryz.func53, Tryz.ntmps53
  go_wp2
  go_ret
  exact ⟨rfl, rfl⟩
set_option maxRecDepth 100000 in
set_option maxHeartbeats 1000000 in
theorem vsum_calls (xs : List Int) (w : World) (hx : vecB xs = true) :
    Calls Tryz.prog 54 #[.agg (VL xs)] w fun e w' => e = .returned (.int .i64 (sumZ 24 (atL xs))) ∧ Below w.heap.size w w' := by
  have HIX := Lib.hid (fun k hk W => vdx24 xs (vecB_len hx) k hk W)
  have HR := Lib.hid (fun k => sumV_rng hx k)
  have HRG := Lib.hid (fun k => vecB_rng hx k)
  obtain ⟨S, hS⟩ : ∃ S : Nat → Int, (fun k => sumZ k (atL xs)) = S := ⟨_, rfl⟩
  have hSk : ∀ k, sumZ k (atL xs) = S k := fun k => by rw [← hS]
  have HSS := Lib.hid (fun k => show S k + atL xs k = S (k + 1) by rw [← hSk, ← hSk]; rfl)
  have HS0 := Lib.hid (show S 0 = 0 by rw [← hSk]; rfl)
  simp only [hSk] at HR ⊢
  have HN := Lib.hid (Blk.new w 36 (VL xs))
  have HB := Lib.hid ((Below.refl w.heap.size w).alloc (Nat.le_refl _) (.cells (VL xs) 36))
  have HX := Lib.hid (vcInfoL xs (vecB_len hx))
  generalize hV : VL xs = V at *
  clear hx hV hS hSk
  go_enter Tryz.func54, Tryz.ntmps54
  go_wp2_with (refine wpList_load_row rfl 36 _ rfl w.heap.size rfl 36 V (0, 0) _ HN.out Tryz.underlying36 rfl HX.out ?_)
  go_loopw [3, 7] (fun s i wr => ∃ p : Nat, p ≤ 24 ∧ i = .int .i64 p ∧ s = .int .i64 (S p) ∧ w.alloc (.cells V 36) = wr) (fun _ i _ => 24 - (intOf i).toNat)
  case atStart => exact ⟨0, by omega, rfl, by rw [HS0.out], rfl⟩
  case round =>
    obtain ⟨p, hp, rfl, rfl, hww⟩ := hrel
    subst hww
    by_cases hlt : p < 24
    · have hp1 : (0 : Int) ≤ (p : Int) := by omega
      have hp2 : (p : Int) < 24 := by omega
      have hix := HIX.out p hlt
      have hrg := HRG.out p
      have h1 := HR.out p
      have h2 := HR.out (p + 1)
      have HS := Lib.hid (HSS.out p)
      obtain ⟨T, hT⟩ : ∃ T, S (p + 1) = T := ⟨_, rfl⟩
      rw [hT] at HS h2
      have HT := Lib.hid hT
      clear hT
      generalize S p = s at *
      generalize atL xs p = x at *
      have hw2 : wrap64 (s + x) = s + x := wrap64_of _ (by omega) (by omega)
      go_wp2_with fail
      go_roundw
      case rel => exact ⟨p + 1, by omega, by go_num, by rw [HT.out, ← HS.out], by first | exact rfl | trivial⟩
      case measure => simp [intOf]; omega
    · obtain rfl : p = 24 := by omega
      go_wp2_with fail
      go_ret
      exact ⟨rfl, HB.out⟩
/-! ### Rows of words -/
def VU (L : List Int) : Array Value := (L.map (Value.int .u32)).toArray
theorem VU_size (L : List Int) : (VU L).size = L.length := by simp [VU]
theorem VU_at {w : World} {g j : Nat} {t : TypeId} (xs : List Int) (hj : j < xs.length) (hg : w.heap[g]? = some (.cells (VU xs) t (0, 0))) : w.cell? ⟨g, j, none⟩ = some (.int .u32 (xs.getD j 0)) := by
  rw [Lib.cell_of_heap hg]
  simp [VU, hj]
theorem VU_set {w : World} {g j : Nat} {t : TypeId} (xs : List Int) (x : Int) (hg : w.heap[g]? = some (.cells (VU xs) t (0, 0))) : (w.setCell ⟨g, j, none⟩ (.int .u32 x)).heap[g]? = some (.cells (VU (xs.set j x)) t (0, 0)) := by
  have := heap_setCell_same w g j (VU xs) t (.int .u32 x) hg
  unfold VU at this ⊢
  rw [List.setIfInBounds_toArray, ← List.map_set] at this
  exact this
theorem VU_all (L : List Int) : (VU L).all (·.oneCell') = true := by
  rw [Array.all_eq_true_iff_forall_mem]
  intro x hx
  simp [VU] at hx
  obtain ⟨a, _, rfl⟩ := hx
  rfl
theorem row_setU {w V X : World} {g j : Nat} {t0 : TypeId} {cs Z : List Int} {t : Int} (h3 : V.heap[g]? = some (.cells (VU cs) t0 (0, 0))) (hg : w.heap.size ≤ g) (hB : Below w.heap.size w V) (hZ : cs.set j t = Z)
    (hX : X.heap = (V.setCell ⟨g, j, none⟩ (.int .u32 t)).heap) (hX2 : X.os = V.os ∧ X.tape = V.tape ∧ X.output = V.output) :
    X.heap[g]? = some (.cells (VU Z) t0 (0, 0)) ∧ (∀ q, q ≠ g → X.heap[q]? = V.heap[q]?) ∧ Below w.heap.size w X := by
  have k1 : ∀ q, q ≠ g → X.heap[q]? = V.heap[q]? := fun q hq => by rw [hX]; exact Below.heap_setCell V _ _ q hq
  have a3 := VU_set (j := j) cs t h3
  rw [hZ, ← hX] at a3
  have b0 : Below w.heap.size V (V.setCell ⟨g, j, none⟩ (.int .u32 t)) := (Below.refl _ V).setCell (show w.heap.size ≤ g from hg) _
  exact ⟨a3, k1, hB.trans ⟨hX2.1, hX2.2.1, hX2.2.2, by rw [hX]; exact b0.size, fun q hq => by rw [hX]; exact b0.block q hq⟩⟩
def z4 : List Int := [0, 0, 0, 0]
theorem xorI_powN (s q : Nat) : xorI (s : Int) (powI (q : Int)) = ((s ^^^ 2 ^ q : Nat) : Int) := by
  unfold xorI powI
  have e2 : ((2 : Int) ^ ((q : Nat) : Int).toNat).toNat = 2 ^ q := by
    rw [Int.toNat_natCast, Int.toNat_pow_of_nonneg (by omega)]
    rfl
  rw [e2, Int.toNat_natCast]
theorem w4_rng (v : Nat → Int) (k r : Nat) (hk : k ≤ 24) : 0 ≤ (w4 v k).getD r 0 ∧ (w4 v k).getD r 0 ≤ 16777215 := by
  have h : ∀ r : Int, restN v r k < 16777216 := fun r => Nat.lt_of_lt_of_le (restN_lt v r k) (by rw [show 16777216 = 2 ^ 24 by decide]; exact Nat.pow_le_pow_right (by decide) hk)
  have h0 := h 0
  have h1 := h 1
  have h2 := h 2
  have h3 := h 3
  match r with
  | 0 => show 0 ≤ ((restN v 0 k : Nat) : Int) ∧ ((restN v 0 k : Nat) : Int) ≤ 16777215; omega
  | 1 => show 0 ≤ ((restN v 1 k : Nat) : Int) ∧ ((restN v 1 k : Nat) : Int) ≤ 16777215; omega
  | 2 => show 0 ≤ ((restN v 2 k : Nat) : Int) ∧ ((restN v 2 k : Nat) : Int) ≤ 16777215; omega
  | 3 => show 0 ≤ ((restN v 3 k : Nat) : Int) ∧ ((restN v 3 k : Nat) : Int) ≤ 16777215; omega
  | n + 4 => show (0 : Int) ≤ 0 ∧ (0 : Int) ≤ 16777215; omega
theorem wdInfo : (Tryz.prog.info? 85).map (·.size) = some 4 := by kernel_rfl
theorem wdInfoL (L : List Int) (h : L.length = 4) : (Tryz.prog.info? 85).map (·.size) = some (VU L).size := by rw [VU_size, h]; exact wdInfo
set_option maxRecDepth 100000 in
set_option maxHeartbeats 2000000 in
theorem restWords_calls (xs : List Int) (w : World) (hl : xs.length = 24) :
    Calls Tryz.prog 51 #[.agg (VL xs)] w fun e w' => e = .returned (.agg (VU (w4 (atL xs) 24))) ∧ Below w.heap.size w w' := by
  have HIX := Lib.hid (fun k hk W => vdx24 xs hl k hk W)
  have HX := Lib.hid (vcInfoL xs hl)
  have HWS := Lib.hid (fun k => w4_set (atL xs) k)
  have HWR := Lib.hid (fun k r hk => w4_rng (atL xs) k r hk)
  have HW0 := Lib.hid (show w4 (atL xs) 0 = z4 from rfl)
  have HWI := Lib.hid (wdInfoL (w4 (atL xs) 24) rfl)
  have HWA := Lib.hid (VU_all (w4 (atL xs) 24))
  have HWZ := Lib.hid (show (VU z4).size = (VU (w4 (atL xs) 24)).size from rfl)
  generalize hVX : VL xs = VX at *
  clear hVX hl
  go_enter Tryz.func51, Tryz.ntmps51
  go_wp2_with (first
    | (refine wpList_load_row rfl 36 _ rfl w.heap.size rfl 36 VX (0, 0) _ (three_heap w _ _ _).1 Tryz.underlying36 rfl HX.out ?_))
  go_loopw [8] (fun i wr => ∃ p : Nat, p ≤ 24 ∧ i = .int .i64 p ∧ Hid (wr.heap[w.heap.size + 1]? = some (.cells (VU z4) 85 (0, 0))) ∧ Hid (wr.heap[w.heap.size + 2]? = some (.cells (VU (w4 (atL xs) p)) 85 (0, 0))) ∧ Hid (Below w.heap.size w wr)) (fun i _ => 24 - (intOf i).toNat)
  case atStart => exact ⟨0, by omega, rfl, Lib.hid (three_heap w _ _ _).2.1, Lib.hid (by rw [HW0.out]; exact (three_heap w _ _ _).2.2.1), Lib.hid (three_heap w _ _ _).2.2.2⟩
  case round =>
    obtain ⟨p, hp, rfl, h1, h2, hbl⟩ := hrel
    by_cases hlt : p < 24
    · have hp1 : (0 : Int) ≤ (p : Int) := by omega
      have hp2 : (p : Int) < 24 := by omega
      have hp3 : (p : Int) ≤ 23 := by omega
      have hix := HIX.out p hlt
      obtain ⟨r, hr, er, eg, _, es⟩ := HWS.out p
      have hrn := HWR.out p r hp
      rw [eg] at hrn
      have hcx := VU_at (j := r) _ (show r < (w4 (atL xs) p).length from hr) h2.out
      rw [eg] at hcx
      have hfx : wr.frozen? ⟨w.heap.size + 2, r, none⟩ = false := Lib.frozen_of_heap h2.out _
      have HF := Lib.hid (fun X => row_setU (X := X) h2.out (by omega) hbl.out es)
      have hr1 : (0 : Int) ≤ (r : Int) := by omega
      have hr2 : (r : Int) < 4 := by omega
      have HR := Lib.hid (fun W => restOf_calls (atL xs p) 4 W (.inl rfl))
      rw [er] at HR
      have hpl := pow_val (p : Int) hp1 hp3
      have HAD := Lib.hid (fun W => word_add ((restN (atL xs) (r : Int) p : Nat) : Int) (powI (p : Int)) W hrn.1 hrn.2 (by omega) (by omega))
      rw [xorI_powN] at HAD
      have HAT := Lib.hid (fun W => wordAt_calls (p : Int) W hp1 hp3)
      clear er eg es hrn hpl
      generalize restN (atL xs) (r : Int) p = R at *
      generalize atL xs p = x at *
      generalize R ^^^ 2 ^ p = R2 at *
      generalize powI (p : Int) = pw at *
      go_wp2_with (go_at_call 53; refine (HR.out _).mono ?_; rintro e w' ⟨rfl, rfl⟩)
      go_region_with (first
        | (go_at_call 91; refine (HAT.out _).mono ?_; rintro e w' ⟨rfl, rfl⟩)
        | (go_at_call 52; refine (HAD.out _).mono ?_; rintro e w' ⟨rfl, rfl⟩))
      all_goals
        go_wp2_with fail
        go_roundw
        case rel =>
          refine ⟨p + 1, by omega, by go_num, Lib.hid ?_, Lib.hid ?_, Lib.hid ?_⟩
          · exact ((HF.out _ rfl ⟨rfl, rfl, rfl⟩).2.1 _ (by omega)).trans h1.out
          · exact (HF.out _ rfl ⟨rfl, rfl, rfl⟩).1
          · exact (HF.out _ rfl ⟨rfl, rfl, rfl⟩).2.2.drew
        case measure => simp [intOf]; omega
    · obtain rfl : p = 24 := by omega
      go_wp2_with (first
        | (refine wpList_load_row rfl 85 _ rfl (w.heap.size + 2) rfl 85 (VU (w4 (atL xs) 24)) (0, 0) _ h2.out Tryz.underlying85 rfl HWI.out ?_)
        | (refine wpList_store_row rfl 85 _ _ rfl (w.heap.size + 1) (VU (w4 (atL xs) 24)) rfl rfl 85 (VU z4) h1.out HWI.out HWZ.out HWA.out ?_))
      exact bodyPost_ret (results_c rfl rfl (setRow_heap _ _ _ _ _ _ h1.out : Blk _ _ _ _) Tryz.underlying85 rfl HWI.out) rfl ⟨rfl, bel_row hbl.out (by omega)⟩
theorem wdx4 (L : List Int) (h : L.length = 4) (k : Nat) (hk : k < 4) (W : World) : (Instr.index 85 (.agg (VU L)) (.int .i64 (k : Int))).run Tryz.prog W = .ok (.int .u32 (L.getD k 0)) W := by
  match L, h with
  | [x0, x1, x2, x3], _ =>
    match k, hk with
    | 0, _ => exact (show _ = _ by kernel_rfl)
    | 1, _ => exact (show _ = _ by kernel_rfl)
    | 2, _ => exact (show _ = _ by kernel_rfl)
    | 3, _ => exact (show _ = _ by kernel_rfl)
theorem inF_w4 (v : Nat → Int) : inF v = (codeInB ((w4 v 24).getD 0 0) && codeInB ((w4 v 24).getD 1 0) && codeInB ((w4 v 24).getD 2 0) && codeInB ((w4 v 24).getD 3 0) && (if xorI ((w4 v 24).getD 1 0) ((w4 v 24).getD 3 0) = 0 then decide (sumZ 24 v % 8 = 0) else if xorI ((w4 v 24).getD 1 0) ((w4 v 24).getD 3 0) = 16777215 then decide (sumZ 24 v % 8 = 4) else false)) := by
  have e : xorI ((w4 v 24).getD 1 0) ((w4 v 24).getD 3 0) = ((restN v 1 24 ^^^ restN v 3 24 : Nat) : Int) := by
    show xorI ((restN v 1 24 : Nat) : Int) ((restN v 3 24 : Nat) : Int) = _
    simp [xorI]
  rw [e]
  have e1 : (((restN v 1 24 ^^^ restN v 3 24 : Nat) : Int) = 0) = (restN v 1 24 ^^^ restN v 3 24 = 0) := by rw [eq_iff_iff]; omega
  have e2 : (((restN v 1 24 ^^^ restN v 3 24 : Nat) : Int) = 16777215) = (restN v 1 24 ^^^ restN v 3 24 = 16777215) := by rw [eq_iff_iff]; omega
  simp only [e1, e2]
  rfl
theorem inF_no (v : Nat → Int) (k : Nat) (hk : k < 4) (h : codeInB ((w4 v 24).getD k 0) = false) : inF v = false := by
  rw [inF_w4]
  match k, hk with
  | 0, _ => rw [h]; rfl
  | 1, _ => rw [h]; simp
  | 2, _ => rw [h]; simp
  | 3, _ => rw [h]; simp
theorem inF_rest (v : Nat → Int) (h : ∀ k, k < 4 → codeInB ((w4 v 24).getD k 0) = true) : inF v = (if xorI ((w4 v 24).getD 1 0) ((w4 v 24).getD 3 0) = 0 then decide (sumZ 24 v % 8 = 0) else if xorI ((w4 v 24).getD 1 0) ((w4 v 24).getD 3 0) = 16777215 then decide (sumZ 24 v % 8 = 4) else false) := by
  rw [inF_w4, h 0 (by omega), h 1 (by omega), h 2 (by omega), h 3 (by omega)]
  rfl
set_option maxRecDepth 100000 in
set_option maxHeartbeats 4000000 in
theorem inLattice_calls (xs : List Int) (w : World) (hx : vecB xs = true) (hT : Tab3 w) :
    Calls Tryz.prog 25 #[.agg (VL xs)] w fun e w' => e = .returned (.bool (inF (atL xs))) ∧ Below w.heap.size w w' := by
  have hT0 := hT.lt
  have HRW := Lib.hid (fun W => restWords_calls xs W (vecB_len hx))
  have HSU := Lib.hid (fun W => vsum_calls xs W hx)
  have HX := Lib.hid (vcInfoL xs (vecB_len hx))
  have HN := Lib.hid (Blk.new w 36 (VL xs))
  have HB := Lib.hid ((Below.refl w.heap.size w).alloc (Nat.le_refl _) (.cells (VL xs) 36))
  have HIX := Lib.hid (fun k hk W => wdx4 (w4 (atL xs) 24) rfl k hk W)
  have HWR := Lib.hid (fun r => w4_rng (atL xs) 24 r (Nat.le_refl _))
  have HWI := Lib.hid (wdInfoL (w4 (atL xs) 24) rfl)
  have HWA := Lib.hid (VU_all (w4 (atL xs) 24))
  have HWZ := Lib.hid (show (VU z4).size = (VU (w4 (atL xs) 24)).size from rfl)
  have HWL := Lib.hid (show (w4 (atL xs) 24).length = 4 from rfl)
  have HNO := Lib.hid (inF_no (atL xs))
  have HRE := Lib.hid (inF_rest (atL xs))
  have hsr := sumV_rng hx 24
  generalize sumZ 24 (atL xs) = S at *
  generalize inF (atL xs) = b at *
  generalize w4 (atL xs) 24 = ws at *
  generalize hVX : VL xs = VX at *
  clear hVX hx
  go_enter Tryz.func25, Tryz.ntmps25
  go_wp2_with (refine wpList_load_row rfl 36 _ rfl w.heap.size rfl 36 VX (0, 0) _ HN.out Tryz.underlying36 rfl HX.out ?_)
  refine (HRW.out _).mono ?_
  rintro e w1 ⟨rfl, b1⟩
  have G1 := Lib.hid ((b1.block w.heap.size (Array.getElem?_eq_some_iff.1 HN.out).1).trans HN.out)
  have B1 := Lib.hid (HB.out.trans (b1.mono HB.out.size))
  have hsz1 := B1.out.size
  have hlt1 : w.heap.size < w1.heap.size := (Array.getElem?_eq_some_iff.1 G1.out).1
  have N2 := Lib.hid (heap_alloc_new w1 (.cells (VU z4) 85))
  have G2 := Lib.hid ((setRow_other (w1.alloc (.cells (VU z4) 85)) w1.heap.size w.heap.size (VU ws) (by omega)).trans ((Below.heap_alloc _ _ _ (by omega)).trans G1.out))
  have GW := Lib.hid (setRow_heap _ _ _ (VU ws) _ _ N2.out)
  have B2 := Lib.hid (bel_row (T := VU ws) (B1.out.alloc hsz1 (.cells (VU z4) 85)) hsz1)
  clear b1 G1 B1 HN HB
  go_wp2_with (first
    | (refine wpList_store_row rfl 85 _ _ rfl w1.heap.size (VU ws) rfl rfl 85 (VU z4) N2.out HWI.out HWZ.out HWA.out ?_)
    | (refine wpList_load_row rfl 85 _ rfl w1.heap.size rfl 85 (VU ws) (0, 0) _ GW.out Tryz.underlying85 rfl HWI.out ?_))
  go_loopw [9] (fun i wr => ∃ p : Nat, p ≤ 4 ∧ i = .int .i64 p ∧ Hid (∀ j, j < p → codeInB (ws.getD j 0) = true) ∧ Hid (wr.heap[w.heap.size]? = some (.cells VX 36 (0, 0))) ∧ Hid (wr.heap[w1.heap.size]? = some (.cells (VU ws) 85 (0, 0))) ∧ Hid (Below w.heap.size w wr)) (fun i _ => 4 - (intOf i).toNat)
  case atStart => exact ⟨0, by omega, rfl, Lib.hid (fun j hj => by omega), G2, GW, B2⟩
  case round =>
    obtain ⟨p, hp, rfl, hco, h1, h2, hbl⟩ := hrel
    clear G2 GW B2 N2
    have hltv := (Array.getElem?_eq_some_iff.1 h1.out).1
    have hltw := (Array.getElem?_eq_some_iff.1 h2.out).1
    by_cases hlt : p < 4
    · have hp1 : (0 : Int) ≤ (p : Int) := by omega
      have hp2 : (p : Int) < 4 := by omega
      have hix := HIX.out p hlt
      have HIC := Lib.hid (word_inCode (ws.getD p 0) wr (HWR.out p) (hT.below hbl.out hT0))
      have HNP := Lib.hid (HNO.out p hlt)
      have HCP := Lib.hid (show codeInB (ws.getD p 0) = true → ∀ j, j < p + 1 → codeInB (ws.getD j 0) = true by
        intro h j hj
        by_cases e : j = p
        · rw [e]; exact h
        · exact hco.out j (by omega))
      cases hc : codeInB (ws.getD p 0)
      · have HQ := Lib.hid (HNP.out hc)
        rw [hc] at HIC
        clear hc HCP HNP
        generalize ws.getD p 0 = x at *
        go_wp2_with fail
        refine HIC.out.mono ?_
        rintro e w5 ⟨rfl, b5⟩
        go_wp2_with fail
        go_ret
        exact ⟨by rw [HQ.out]; rfl, hbl.out.trans (b5.mono hbl.out.size)⟩
      · have HQ := Lib.hid (HCP.out hc)
        rw [hc] at HIC
        clear hc HCP HNP
        generalize ws.getD p 0 = x at *
        go_wp2_with fail
        refine HIC.out.mono ?_
        rintro e w5 ⟨rfl, b5⟩
        go_wp2_with fail
        go_roundw
        case rel => exact ⟨p + 1, by omega, by go_num, HQ, Lib.hid ((b5.block _ hltv).trans h1.out), Lib.hid ((b5.block _ hltw).trans h2.out), Lib.hid (hbl.out.trans (b5.mono hbl.out.size))⟩
        case measure => simp [intOf]; omega
    · obtain rfl : p = 4 := by omega
      have HQ := Lib.hid (HRE.out hco.out)
      have c1 := VU_at (j := 1) ws (by rw [HWL.out]; omega) h2.out
      have c3 := VU_at (j := 3) ws (by rw [HWL.out]; omega) h2.out
      have r1 := HWR.out 1
      have r3 := HWR.out 3
      generalize ws.getD 1 0 = x1 at *
      generalize ws.getD 3 0 = x3 at *
      have HAD := Lib.hid (fun W => word_add x1 x3 W r1.1 r1.2 r3.1 r3.2)
      generalize xorI x1 x3 = X at *
      have HL := Lib.hid (fun W (h : W = wr) => show W.heap[w.heap.size]? = some (.cells VX 36 (0, 0)) by rw [h]; exact h1.out)
      by_cases hX0 : X = 0
      · have hX1 : (X == 0) = true := by simpa using hX0
        have HQ2 := Lib.hid (show b = decide (S % 8 = 0) by rw [HQ.out, if_pos hX0])
        subst hX0
        go_wp2_with (first
          | (go_at_call 52; refine (HAD.out _).mono ?_; rintro e w' ⟨rfl, rfl⟩)
          | (refine wpList_load_row rfl 36 _ rfl w.heap.size rfl 36 VX (0, 0) _ h1.out Tryz.underlying36 rfl HX.out ?_))
        refine (HSU.out _).mono ?_
        rintro e w5 ⟨rfl, b5⟩
        go_wp2_with (go_at_call 53; refine (restOf_calls S 8 _ (.inr rfl)).mono ?_; rintro e w' ⟨rfl, rfl⟩)
        go_ret
        exact ⟨by rw [HQ2.out]; rfl, hbl.out.trans (b5.mono hbl.out.size)⟩
      · have hX1 : (X == 0) = false := by simpa using hX0
        by_cases hX2 : X = 16777215
        · have HQ2 := Lib.hid (show b = decide (S % 8 = 4) by rw [HQ.out, if_neg hX0, if_pos hX2])
          subst hX2
          go_wp2_with (first
            | (go_at_call 52; refine (HAD.out _).mono ?_; rintro e w' ⟨rfl, rfl⟩)
            | (refine wpList_load_row rfl 36 _ rfl w.heap.size rfl 36 VX (0, 0) _ h1.out Tryz.underlying36 rfl HX.out ?_))
          refine (HSU.out _).mono ?_
          rintro e w5 ⟨rfl, b5⟩
          go_wp2_with (go_at_call 53; refine (restOf_calls S 8 _ (.inr rfl)).mono ?_; rintro e w' ⟨rfl, rfl⟩)
          go_ret
          exact ⟨by rw [HQ2.out]; rfl, hbl.out.trans (b5.mono hbl.out.size)⟩
        · have hX3 : (X == 16777215) = false := by simpa using hX2
          have HQ2 := Lib.hid (show b = false by rw [HQ.out, if_neg hX0, if_neg hX2])
          clear hX0 hX2
          go_wp2_with (go_at_call 52; refine (HAD.out _).mono ?_; rintro e w' ⟨rfl, rfl⟩)
          go_ret
          exact ⟨by rw [HQ2.out]; rfl, hbl.out⟩
end Go.Proofs.YtiodikflmijhkaaGreatDoor
end

section
namespace Go.Proofs.YtiodikflmijhkaaGreatDoor
open Go.RowKit
set_option linter.unusedVariables false
set_option linter.unusedSimpArgs false
attribute [local irreducible] cN syn

set_option maxRecDepth 100000 in
set_option maxHeartbeats 2000000 in
theorem iLatticeIn_calls (A : Option Addr) (c : Nat) (xs : List Int) (w : World) (ha : Rds w w.heap.size .i64 A xs) (hx : xs.length ≤ maxLen) (hT : Tab3 w) :
    Calls Tryz.prog 11 #[.slice A xs.length c] w fun e w' => e = .returned (.bool (latB xs)) ∧ Below w.heap.size w w' := by
  have hT0 := hT.lt
  have HF := Lib.hid (vecFrom_calls A c xs w ha hx)
  have HI := Lib.hid (vcInfoL (vcL xs) (vcL_len xs))
  have HSZ := Lib.hid (show (VL z24).size = (VL (vcL xs)).size by rw [VL_size, VL_size, vcL_len]; rfl)
  have HALL := Lib.hid (VL_all (vcL xs))
  rcases hb : vecB xs with _ | _
  · rw [show latB xs = false by simp [latB, hb]]
    rw [hb] at HF
    clear ha hx hb
    generalize xs.length = n at *
    generalize VL (vcL xs) = V at *
    go_enter Tryz.func11, Tryz.ntmps11
    go_wp2_with fail
    refine HF.out.mono ?_
    rintro e w1 ⟨rfl, b1⟩
    have HN := Lib.hid (Blk.new w1 36 (VL z24))
    have HB := Lib.hid (b1.alloc b1.size (.cells (VL z24) 36))
    have hw1 := b1.size
    clear b1
    go_wp2_with (refine wpList_store_row rfl 36 _ _ rfl w1.heap.size V rfl rfl 36 (VL z24) HN.out HI.out HSZ.out HALL.out ?_)
    go_ret
    exact ⟨rfl, bel_row HB.out hw1⟩
  · rw [show latB xs = inF (atL xs) by simp [latB, hb]]
    have HL := Lib.hid (fun W h => inLattice_calls xs W hb h)
    rw [hb] at HF
    rw [vcL_yes (vecB_len hb)] at HF HI HSZ HALL
    clear ha hx hb
    generalize xs.length = n at *
    generalize inF (atL xs) = q at *
    generalize VL xs = V at *
    go_enter Tryz.func11, Tryz.ntmps11
    go_wp2_with fail
    refine HF.out.mono ?_
    rintro e w1 ⟨rfl, b1⟩
    have HN := Lib.hid (Blk.new w1 36 (VL z24))
    have HB := Lib.hid (bel_row (T := V) (b1.alloc b1.size (.cells (VL z24) 36)) b1.size)
    have HV := Lib.hid (setRow_heap _ _ _ V _ _ HN.out)
    clear b1
    go_wp2_with (first
      | (refine wpList_store_row rfl 36 _ _ rfl w1.heap.size V rfl rfl 36 (VL z24) HN.out HI.out HSZ.out HALL.out ?_)
      | (refine wpList_load_rowW (by first | rfl | (simp [go_sem]; done)) 36 _ rfl w1.heap.size rfl 36 V (0, 0) _ HV.out Tryz.underlying36 rfl HI.out ?_))
    refine (HL.out _ (hT.below HB.out hT0)).mono ?_
    rintro e w2 ⟨rfl, b2⟩
    have HB2 := Lib.hid (HB.out.trans (b2.mono HB.out.size))
    clear b2
    go_wp2_with fail
    go_ret
    exact ⟨rfl, HB2.out⟩
end Go.Proofs.YtiodikflmijhkaaGreatDoor
end

section
namespace Go.Proofs.YtiodikflmijhkaaGreatDoor
open Go.RowKit
set_option linter.unusedVariables false
attribute [local irreducible] cN syn

/-- A block of ints alone. -/
def IntBk (w : World) (b : Nat) : Prop := ∃ cs t f, w.heap[b]? = some (.cells cs t f) ∧ ∀ v ∈ cs, ∃ k n, v = .int k n
abbrev OwnI (w : World) (B : Nat) (v : Value) (xs : List Int) : Prop := Own w B v xs ∧ ∀ g, v.ownBlock = some g → IntBk w g
theorem OwnI.own {w : World} {B : Nat} {v : Value} {xs : List Int} (h : OwnI w B v xs) : Own w B v xs := h.1
theorem OwnI.int {w : World} {B : Nat} {v : Value} {xs : List Int} (h : OwnI w B v xs) : ∀ g, v.ownBlock = some g → IntBk w g := h.2
section
variable {w w' : World} {B B' : Nat} {v : Value} {xs : List Int}
theorem IntBk.lt {b : Nat} (h : IntBk w b) : b < w.heap.size := by
  obtain ⟨cs, t, f, h, _⟩ := h
  exact (Array.getElem?_eq_some_iff.1 h).1
theorem IntBk.same {b : Nat} (h : IntBk w b) (e : w'.heap[b]? = w.heap[b]?) : IntBk w' b := by
  obtain ⟨cs, t, f, h1, h2⟩ := h
  exact ⟨cs, t, f, e.trans h1, h2⟩
theorem IntBk.set {b : Nat} (h : IntBk w b) (g j : Nat) (k : IntKind) (x : Int) : IntBk (w.setCell ⟨g, j, none⟩ (.int k x)) b := by
  obtain ⟨cs, t, f, h1, h2⟩ := h
  by_cases e : g = b
  · subst e
    refine ⟨cs.setIfInBounds j (.int k x), t, f, by simp [World.setCell, Array.getElem?_modify, h1], fun u hu => ?_⟩
    rcases Array.mem_or_eq_of_mem_setIfInBounds hu with h | h
    · exact h2 u h
    · exact ⟨_, _, h⟩
  · exact IntBk.same ⟨cs, t, f, h1, h2⟩ (Below.heap_setCell w ⟨g, j, none⟩ _ b fun h => e h.symm)
theorem OwnI.form (h : OwnI w B v xs) : (v = .slice none 0 0 ∧ xs = []) ∨ ∃ g cap, v = .slice (some ⟨g, 0, none⟩) xs.length cap ∧ B ≤ g ∧ g < w.heap.size ∧ xs.length ≤ cap ∧ cap ≤ maxLen := h.own.form
theorem OwnI.len_le (h : OwnI w B v xs) : xs.length ≤ maxLen := h.own.len_le
theorem OwnI.weak (h : OwnI w B v xs) (hB : B' ≤ B) : OwnI w B' v xs := ⟨h.own.weak hB, h.int⟩
theorem OwnI.cell {g n c : Nat} (h : OwnI w B (.slice (some ⟨g, 0, none⟩) n c) xs) {j : Nat} (hj : j < xs.length) : w.cell? ⟨g, j, none⟩ = some (.int .i64 (xs.getD j 0)) := h.own.cell hj
theorem OwnI.free {g n c : Nat} (h : OwnI w B (.slice (some ⟨g, 0, none⟩) n c) xs) (j : Nat) : w.frozen? ⟨g, j, none⟩ = false := h.own.free j
theorem OwnI.rds {A : Option Addr} {n c : Nat} (h : OwnI w B (.slice A n c) xs) : Rds w w.heap.size .i64 A xs := h.own.rds
theorem OwnI.slice (h : OwnI w B v xs) : ∃ A c, v = .slice A xs.length c := h.own.slice
theorem OwnI.drewN (h : OwnI w B v xs) (n : Nat) : OwnI (w.drewN n) B v xs := ⟨h.own.drewN n, h.int⟩
theorem OwnI.below (h : OwnI w B v xs) (hb : Below w.heap.size w w') : OwnI w' B v xs := ⟨h.own.below hb, fun g hg => (h.int g hg).same (hb.block g (h.int g hg).lt)⟩
theorem OwnI.alloc (h : OwnI w B v xs) (o : Obj) : OwnI (w.alloc o) B v xs := h.below ((Below.refl _ _).alloc (Nat.le_refl _) _)
theorem OwnI.set {g c n : Nat} (h : OwnI w B (.slice (some ⟨g, 0, none⟩) n c) xs) (j : Nat) (x : Int) : OwnI (w.setCell ⟨g, j, none⟩ (.int .i64 x)) B (.slice (some ⟨g, 0, none⟩) n c) (xs.set j x) :=
  ⟨h.own.set j x, fun b hb => (h.int b hb).set _ _ _ _⟩
theorem OwnI.grownG {g : Nat} (h : OwnI w B v xs) (hg : w.grownBy w' (some g)) (hB : g < B) : OwnI w' B v xs :=
  ⟨h.own.grownG hg hB, fun b hb => (h.int b hb).same (hg.block b (h.int b hb).lt (by have := own_row_ge h.own b hb; simp; omega))⟩
theorem OwnI.cut {g n c m : Nat} (h : OwnI w B (.slice (some ⟨g, 0, none⟩) n c) xs) (hm : m ≤ xs.length) : OwnI w B (.slice (some ⟨g, 0, none⟩) m c) (xs.take m) := ⟨h.own.cut hm, fun b hb => h.int b hb⟩
end
theorem ownI_lt {w : World} {B b n c : Nat} {xs : List Int} (h : OwnI w B (.slice (some ⟨b, 0, none⟩) n c) xs) : b < w.heap.size := (h.int b rfl).lt
theorem ownI_at {w : World} {B : Nat} {A : Option Addr} {n c : Nat} {xs : List Int} (h : OwnI w B (.slice A n c) xs) (hp : 0 < n) : ∃ g, A = some ⟨g, 0, none⟩ ∧ B ≤ g ∧ g < w.heap.size := own_at h.own hp
theorem ownI_empty (w : World) (B : Nat) (hB : B ≤ w.heap.size) : OwnI (w.alloc (.cells #[] 3)) B (.slice (some ⟨w.heap.size, 0, none⟩) 0 0) [] :=
  ⟨own_empty w B hB, fun g hg => by cases hg; exact ⟨_, _, _, heap_alloc_new w _, fun v hv => by simp at hv⟩⟩
theorem ownI_empty2 (w : World) (B : Nat) (hB : B ≤ w.heap.size) : OwnI (w.alloc (.cells #[] 3)) B (.slice (some ⟨w.heap.size, 0, none⟩) 0 0) [] := ownI_empty w B hB
theorem ownI_24L {w : World} {B g : Nat} (xs : List Int) (hl : xs.length = 24) (hg : w.heap[g]? = some (.cells (VL xs) 3 (0, 0))) (hB : B ≤ g) : OwnI w B (.slice (some ⟨g, 0, none⟩) 24 24) xs :=
  ⟨own_24L xs hl hg hB, fun b hb => by
    cases hb
    refine ⟨_, _, _, hg, fun v hv => ?_⟩
    simp only [VL, List.mem_toArray, List.mem_map] at hv
    obtain ⟨x, _, rfl⟩ := hv
    exact ⟨_, _, rfl⟩⟩

/-- What an append of one number leaves is ints alone. -/
theorem append_int {i0 : TypeInfo} (hi : (Tryz.prog).info? 3 = some i0) (hz0 : i0.zero = some (.int .i64 0)) (hz1 : i0.size = 1) (hz2 : i0.bytes = 8) {w W : World} {B : Nat} {v : Value} {xs : List Int} {x : Int} {c : Nat} {ty : TypeId} {ad : Addr} (hown : OwnI w B v xs) (hlen : xs.length ≤ 1048576)
    (hnews : ∀ j u, [Value.int .i64 x][j]? = some u → w.cell? (ad.add j) = some u) {v' : Value}
    (hr : (Builtin.append_ #[23, 23] ty #[v, .slice (some ad) 1 c]).run Tryz.prog w = .ok v' W) : ∀ g, v'.ownBlock = some g → IntBk W g := by
  have zs : ∀ n, ∀ u ∈ Builtin.zeroCells (Value.int .i64 0).cells n, ∃ k m, u = .int k m := fun n u hu => by
    simp only [Builtin.zeroCells, Value.cells, Array.mem_map] at hu
    obtain ⟨i, _, rfl⟩ := hu
    exact ⟨.i64, 0, by simp [Nat.mod_one]⟩
  have vs : ∀ u ∈ vals .i64 xs, ∃ k m, u = .int k m := fun u hu => by
    simp only [vals, List.mem_map] at hu
    obtain ⟨y, _, rfl⟩ := hu
    exact ⟨_, _, rfl⟩
  rcases hown.own.2 with ⟨rfl, h0⟩ | ⟨g, cap, cur, rfl, hbg, hg, hnc, hcm, hcs, htake⟩
  · have := run_append_nil (P := Tryz.prog) w 23 ty 3 i0 (.int .i64 0) Tryz.underlying23 hi hz0 ad 1 c [.int .i64 x] (by simp [hz1]) hnews (by omega) (by omega) (by rw [hz2]; omega)
    rw [this] at hr
    cases hr
    intro b hb
    cases hb
    refine ⟨_, _, _, heap_alloc_new w.drew _, fun u hu => ?_⟩
    rcases Array.mem_append.1 hu with h | h
    · simp at h; exact ⟨_, _, h⟩
    · exact zs _ u h
  · by_cases hroom : xs.length + 1 ≤ cap
    · have := run_append_room (P := Tryz.prog) w 23 ty 3 i0 Tryz.underlying23 hi g xs.length cap cur hg ad 1 c [.int .i64 x] (by simp [hz1]) hnews (fun u hu => by simp at hu; subst hu; rfl) hroom (by rw [hz1, hcs]; simp; omega)
      rw [this] at hr
      cases hr
      intro b hb
      cases hb
      refine ⟨_, _, _, setRow_heap w g cur _ _ _ hg, fun u hu => ?_⟩
      obtain ⟨cs2, t2, f2, h1, h2⟩ := hown.int g rfl
      rw [hg] at h1
      cases h1
      simp only [List.mem_toArray, List.mem_append] at hu
      rcases hu with (h | h) | h
      · exact h2 u (Array.mem_toList_iff.1 (List.mem_of_mem_take h))
      · simp at h; exact ⟨_, _, h⟩
      · exact h2 u (Array.mem_toList_iff.1 (List.mem_of_mem_drop h))
    · have holds : ∀ j u, (vals .i64 xs)[j]? = some u → w.cell? ((⟨g, 0, none⟩ : Addr).add j) = some u := World.ownsRow.cells hown.own (g := g) rfl
      have := run_append_grow (P := Tryz.prog) w 23 ty 3 i0 (.int .i64 0) Tryz.underlying23 hi hz0 ⟨g, 0, none⟩ xs.length cap (vals .i64 xs) (by rw [vals_len, hz1]; simp) holds ad 1 c [.int .i64 x] (by simp [hz1]) hnews (by omega) (by omega) (growslice_fits (by omega) (by rw [hz2]; omega))
      rw [this] at hr
      cases hr
      intro b hb
      cases hb
      refine ⟨_, _, _, heap_alloc_new w.drew _, fun u hu => ?_⟩
      rcases Array.mem_append.1 hu with h | h
      · rcases Array.mem_append.1 h with h | h
        · exact vs u (by simpa using h)
        · simp at h; exact ⟨_, _, h⟩
      · exact zs _ u h

theorem wpList_pushI {ops : Array Oper} {rest : List Oper} {o : Oper} {a : Act} {Q : Exit → Act → World → Prop} (hgd : o.guard = none) (s y : Operand)
    (ho : o.op = .call { callee := .builtin .append, args := #[s, y], argTypes := #[23, 23] })
    (w : World) (B : Nat) (v : Value) (xs : List Int) (x : Int) (c : Nat) (hs : a.eval s = v) (hy : a.eval y = .slice (some ⟨w.heap.size, 0, none⟩) 1 c)
    (hown : OwnI w B v xs) (hlen : xs.length ≤ 1048576) (hB : B ≤ w.heap.size)
    (h : ∀ v' w', OwnI w' B v' (xs ++ [x]) → Below B w w' → w.grownBy w' v.ownBlock → wpList Tryz.prog ops Q rest (a.put o.dst v') w') :
    wpList Tryz.prog ops Q (o :: rest) a (w.alloc (.cells #[.int .i64 x] 3)) := by
  obtain ⟨i0, hi, hz0, hz1, hz2⟩ := info_parts intRow
  have hnews : ∀ j u, [Value.int .i64 x][j]? = some u → (w.alloc (.cells #[.int .i64 x] 3)).cell? ((⟨w.heap.size, 0, none⟩ : Addr).add j) = some u := by
    intro j u hj
    match j, hj with
    | 0, hj => simp at hj; subst hj; simp [Addr.add]
  refine wpList_plain hgd fun _ hK => ?_
  obtain ⟨v', w', hr, h2, h3, _⟩ := run_append_own (P := Tryz.prog) (w.alloc (.cells #[.int .i64 x] 3)) B 23 o.type 3 i0 (.int .i64 0) 1 8 Tryz.underlying23 hi hz0 hz1 hz2 rfl (by decide) v xs.length (vals .i64 xs)
    (World.ownsRow.alloc hown.own _) ⟨w.heap.size, 0, none⟩ 1 c [.int .i64 x] rfl hnews (fun u hu => by simp at hu; subst hu; rfl) (by unfold maxLen; omega) (by omega) (by simp; omega)
  have hint := append_int hi hz0 hz1 hz2 (hown.alloc _) hlen hnews hr
  have hg : w.grownBy w' v.ownBlock := grown_trans (World.grownBy_alloc w _ _) h3
  have hO : OwnI w' B v' (xs ++ [x]) := ⟨by
    unfold Own
    rw [vals_append, show vals .i64 [x] = [Value.int .i64 x] from rfl]
    simpa using h2, hint⟩
  have := h v' w' hO ((Below.refl B w).grown hg hB (own_row_ge hown.own)) hg
  unfold Oper.wp execOp
  simp only [ho, resolve, invoke, builtin, Sem.run_bind, Sem.run_pure, Result.andThen_ok, List.map_toArray, List.map_cons, List.map_nil, hs, hy, hr]
  exact hK _ _ this
end Go.Proofs.YtiodikflmijhkaaGreatDoor
end
