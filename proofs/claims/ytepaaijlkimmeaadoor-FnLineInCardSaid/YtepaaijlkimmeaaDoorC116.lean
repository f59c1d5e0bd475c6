/- Orders, of both sides. -/
import Derived.Test.YtepaaijlkimmeaaDoorC105
import Derived.Test.YtepaaijlkimmeaaDoorM34
import Derived.Test.YtepaaijlkimmeaaDoorM35
import Derived.Test.YtepaaijlkimmeaaDoorC121
import Derived.DeepKeys5
import Derived.Deep.QuietTactic
import Derived.BigQuiet
namespace Go.Proofs.YtepaaijlkimmeaaDoor
open Go.RowKit
set_option linter.unusedVariables false
attribute [local irreducible] cN syn

theorem quietL {P : Program} {f : FuncId} {args : Array Value} {w : World} {n : Nat} {v : Value}
    (h : Calls P f args (w.drewN n) fun e w' => e = .returned v ∧ w.drewN n = w') : Calls P f args (w.drewN n) fun e w'' => e = .returned v ∧ ∃ m, w'' = w.drewN m :=
  h.mono fun _ _ ⟨he, hm⟩ => ⟨he, n, hm.symm⟩
theorem quietAddL {P : Program} {f : FuncId} {args : Array Value} {w : World} {a n : Nat} {v : Value}
    (h : Calls P f args (w.drewN (a + n)) fun e w' => e = .returned v ∧ w.drewN (a + n) = w') :
    Calls P f args (w.drewN (a + n)) fun e w'' => e = .returned v ∧ ∃ m, w'' = w.drewN (a + m) :=
  h.mono fun _ _ ⟨he, hm⟩ => ⟨he, n, hm.symm⟩
theorem lcm_step (n l : Nat) : n / Nat.gcd n l * l = Nat.lcm n l := by
  unfold Nat.lcm
  exact Nat.div_mul_right_comm (Nat.gcd_dvd_left n l) l
theorem plOrder_ord {xs : List Int} (h : permB xs = true) : plOrder xs = (((ordP (natP xs) : Nat) : Int), true) := by
  unfold plOrder
  rw [h]; rfl
theorem keyLits_ints {P : Program} {t e : TypeId} {n : Nat} (hu : P.underlying t = some (.array n e)) (he : P.underlying e = some (.int .i64)) (hc : P.cellsOf t = n) (hce : P.cellsOf e = 1) (xs : List Int) (hl : xs.length = n) (hwf : ∀ x ∈ xs, (Lit.int .i64 x).wf = true) (d : Nat) :
    P.keyLits (d + 2) t (xs.map (Value.int .i64)) = some (xs.map (Lit.int .i64)) := by
  have hm : ∀ (L : List Nat) (g : Nat → List Lit) (f : Nat → Option (List Lit)), (∀ a ∈ L, f a = some (g a)) → L.mapM f = some (L.map g) := by
    intro L g f hf
    induction L with
    | nil => rfl
    | cons a L ih =>
      rw [List.mapM_cons, hf a List.mem_cons_self, ih (fun b hb => hf b (List.mem_cons_of_mem _ hb))]
      rfl
  have h1 : ∀ i ∈ List.range n, P.keyLits (d + 1) e (((xs.map (Value.int .i64)).drop (i * P.cellsOf e)).take (P.cellsOf e)) = some [Lit.int .i64 (xs.getD i 0)] := by
    intro i hi
    have hi' : i < xs.length := by rw [hl]; exact List.mem_range.1 hi
    rw [hce, Nat.mul_one, List.drop_eq_getElem_cons (by simpa using hi'), List.take_succ_cons, List.take_zero]
    have hx : (xs.map (Value.int .i64))[i]'(by simpa using hi') = Value.int .i64 (xs.getD i 0) := by simp [hi']
    rw [hx]
    have hw : (Lit.int .i64 (xs.getD i 0)).wf = true := hwf _ (by rw [show xs.getD i 0 = xs[i] by simp [hi']]; exact List.getElem_mem hi')
    generalize xs.getD i 0 = x at *
    unfold Program.keyLits
    simp only [he]
    rw [if_pos ⟨trivial, hw⟩]
  have h2 : P.keyLits (d + 2) t (xs.map (Value.int .i64)) = (((List.range n).mapM fun i => P.keyLits (d + 1) e (((xs.map (Value.int .i64)).drop (i * P.cellsOf e)).take (P.cellsOf e))).map List.flatten) := by
    conv => lhs; unfold Program.keyLits
    simp only [hu]
    rw [if_pos (by simp [hl, hc])]
  have h3 : ∀ (L : List Nat) (g : Nat → Lit), (L.map fun i => [g i]).flatten = L.map g := by
    intro L g
    induction L with
    | nil => rfl
    | cons a L ih => simp [ih]
  rw [h2, hm _ (fun i => [Lit.int .i64 (xs.getD i 0)]) _ h1, Option.map_some, h3]
  congr 1
  refine List.ext_getElem (by simp [hl]) fun i a b => ?_
  have : i < xs.length := by simpa using b
  simp [this]
theorem key_perm (xs : List Int) (hl : xs.length = 24) (hwf : ∀ x ∈ xs, (Lit.int .i64 x).wf = true) : keyOf Tryd.prog 46 (.agg (VL xs)) = some (.string (keyBytes (xs.map (Lit.int .i64)))) := by
  have hk := keyLits_ints (P := Tryd.prog) Tryd.underlying46 Tryd.underlying3 (by kernel_rfl) (by kernel_rfl) xs hl hwf (Tryd.prog.types.size - 1)
  have hs : Tryd.prog.types.size - 1 + 2 = Tryd.prog.types.size + 1 := by
    have : 1 ≤ Tryd.prog.types.size := by decide +kernel
    omega
  rw [hs] at hk
  unfold keyOf
  simp only [Tryd.underlying46]
  have h1 : Tryd.prog.keyType 46 = true := by kernel_rfl
  have h2 : (Value.agg (VL xs)).formed Tryd.prog 46 = true := by
    have hc : Tryd.prog.cellsOf 46 = 24 := by kernel_rfl
    simp only [Value.formed, Tryd.underlying46, hc, VL_size, hl]
    decide
  rw [h1, h2]
  have e : (Value.agg (VL xs)).cells.toList = xs.map (Value.int .i64) := by simp [Value.cells, VL]
  rw [e, hk]
  rfl
theorem perm_law : Maps.Keyed Tryd.prog 46 := Maps.Keyed.of_law (deep_law_laid (m := 2) (by kernel_rfl) (by decide) (by decide +kernel) (by kernel_rfl) (by kernel_rfl))
theorem pow_key {P : List Nat} (h : PermN P) (j : Nat) : keyOf Tryd.prog 46 (.agg (VL (intP (powN P j)))) = some (kyP (powN P j)) := by
  have hq := powN_perm h j
  refine key_perm _ (by rw [intP_len, hq.1]) fun x hx => ?_
  obtain ⟨y, hy, rfl⟩ := List.mem_map.1 hx
  have := hq.2.2 y hy
  exact WalkArith.wf_i64 (by omega)
theorem VL_inj {xs ys : List Int} (h : VL xs = VL ys) : xs = ys := by
  have e : (VL xs).toList = (VL ys).toList := by rw [h]
  simp only [VL, List.toList_toArray] at e
  have h2 := congrArg (List.map intOf) e
  rw [List.map_map, List.map_map] at h2
  simpa [Function.comp_def, intOf] using h2
theorem ky_inj (a b : List Nat) (ha : PermN a) (hb : PermN b) (h : kyP a = kyP b) : a = b := by
  have e1 := pow_key ha 1
  have e2 := pow_key hb 1
  rw [powN_one ha] at e1
  rw [powN_one hb] at e2
  rw [h] at e1
  have e3 : Value.agg (VL (intP a)) = Value.agg (VL (intP b)) := perm_law.inj e1 e2
  have e4 := VL_inj (Value.agg.inj e3)
  have e5 := congrArg natP e4
  rwa [natP_intP, natP_intP] at e5
theorem grown_setRow (V : World) (g : Nat) (T : Array Value) : V.grownBy (V.setRow g T) (some g) := ⟨rfl, rfl, rfl, by simp, fun i _ hi => setRow_other V g i T (fun e => hi (by rw [e]))⟩
theorem grownQ_below {W W2 : World} (h : Below W.heap.size W W2) : W.grownBy W2 none := ⟨h.os, h.tape, h.output, h.size, fun i hi _ => h.block i hi⟩
theorem zero_bool (w : World) : (zeroValue 4).run Tryd.prog w = .ok (.bool false) w := by kernel_rfl
theorem alloc_two (w : World) (A B : Obj) : ((w.alloc A).alloc B).heap[w.heap.size]? = some A := (Below.heap_alloc _ _ _ (by simp; try omega)).trans (heap_alloc_new w _)
set_option maxRecDepth 100000 in
set_option maxHeartbeats 4000000 in
theorem order_calls (xs : List Int) (hp : permB xs = true) (w : World) :
    Calls Tryd.prog 31 #[.agg (VL xs)] w fun e w' => e = .returned (.int .i64 ((ordP (natP xs) : Nat) : Int)) ∧ Below w.heap.size w w' := by
  have hlx := permB_len hp
  obtain ⟨hP, hN⟩ := permB_perm hp
  have HX := Lib.hid (pmInfoL xs hlx)
  have HVL := Lib.hid (show (VL xs).size = 24 by rw [VL_size, hlx])
  have HVA := Lib.hid (VL_all xs)
  have HI := Lib.hid (fun j => pmInfoL (intP (powN (natP xs) j)) (by rw [intP_len, (powN_perm hP j).1]))
  have HS := Lib.hid (fun j => show (VL (intP (powN (natP xs) j))).size = 24 by rw [VL_size, intP_len, (powN_perm hP j).1])
  have HA := Lib.hid (fun j => VL_all (intP (powN (natP xs) j)))
  have HK := Lib.hid (fun j => pow_key hP j)
  have HON := Lib.hid (ordP_rng hP)
  have HT := Lib.hid (fun j W => show Calls Tryd.prog 57 #[.agg (VL (intP (powN (natP xs) j))), .agg (VL xs)] W fun e w' => e = .returned (.agg (VL (intP (powN (natP xs) (j + 1))))) ∧ Below W.heap.size W w' by
    have h := then_calls (intP (powN (natP xs) j)) xs W (permB_of (powN_perm hP j)) hp
    rw [natP_intP] at h
    exact h)
  have inj : ∀ j k, kyP (powN (natP xs) j) = kyP (powN (natP xs) k) → powN (natP xs) j = powN (natP xs) k := fun j k h => ky_inj _ _ (powN_perm hP j) (powN_perm hP k) h
  have HNEW := Lib.hid (fun j hj => setP_new hP inj j hj)
  have HOLD := Lib.hid (setP_old hP)
  have HSZ := Lib.hid (fun j hj => setP_size hP inj j hj)
  have HSU := Lib.hid (fun j => setP_succ (natP xs) j)
  have HP1 := Lib.hid (show VL xs = VL (intP (powN (natP xs) (0 + 1))) by rw [powN_one hP, hN])
  have hmm := @run_makeMap Tryd.prog
  generalize ordP (natP xs) = n at *
  obtain ⟨V, hV⟩ : ∃ V : Nat → Array Value, (fun j => VL (intP (powN (natP xs) j))) = V := ⟨_, rfl⟩
  have hVj : ∀ j, VL (intP (powN (natP xs) j)) = V j := fun j => by rw [← hV]
  obtain ⟨KY, hKY⟩ : ∃ V : Nat → Lit, (fun j => kyP (powN (natP xs) j)) = V := ⟨_, rfl⟩
  have hKj : ∀ j, kyP (powN (natP xs) j) = KY j := fun j => by rw [← hKY]
  obtain ⟨ST, hST⟩ : ∃ V : Nat → DataW Unit, (fun j => setP (natP xs) j) = V := ⟨_, rfl⟩
  have hSj : ∀ j, setP (natP xs) j = ST j := fun j => by rw [← hST]
  have HS0 := Lib.hid (show ST 0 = .map [] by rw [← hSj]; rfl)
  simp only [hVj, hKj, hSj] at HI HS HA HK HT HNEW HOLD HSZ HSU HP1 inj
  generalize VL xs = VX at *
  have HPX := HP1
  clear HP1 inj hVj hKj hSj hV hKY hST hP hN hlx hp
  go_enter Tryd.func31, Tryd.ntmps31
  go_wp2_with (first
    | (refine wpList_load_row rfl 46 _ rfl w.heap.size rfl 46 VX (0, 0) _ (alloc_two w _ _) Tryd.underlying46 rfl HX.out ?_)
    | (refine wpList_store_row rfl 46 _ _ rfl (w.heap.size + 2) VX rfl rfl 46 (VL z24) (three_heap w _ _ _).2.2.1 HX.out (by rw [HVL.out]; rfl) HVA.out ?_))
  go_frame
  go_loopw [4] (fun ad wr => ∃ j B : Nat, j ≤ n ∧ ad = .pointer (some ⟨B, 0, none⟩) ∧ w.heap.size + 2 ≤ B ∧ Hid (wr.heap[B]? = some (.cells (V (j + 1)) 46 (0, 0))) ∧ Hid (wr.heap[w.heap.size]? = some (.cells VX 46 (0, 0))) ∧ Hid (wr.ownsMap Tryd.prog 46 (plainElem Tryd.prog 4) (w.heap.size + 1) j (ST j)) ∧ Hid (Below w.heap.size w wr)) (fun _ wr => n - mapSz wr (w.heap.size + 1))
  case atStart =>
    refine ⟨0, w.heap.size + 2, by omega, rfl, by omega, Lib.hid ?_, Lib.hid ?_, Lib.hid ?_, Lib.hid ?_⟩
    · rw [← HPX.out]
      exact setRow_heap _ _ _ _ _ _ (three_heap w _ _ _).2.2.1
    · exact (setRow_other _ _ _ _ (by omega)).trans (three_heap w _ _ _).1
    · rw [HS0.out]
      have h := World.ownsMap_made (H := Unit) (w.alloc (.cells VX 46)) Tryd.prog 46 (plainElem Tryd.prog 4)
      rw [alloc_sz] at h
      exact (h.alloc _).kept (grown_setRow _ _ _) (by simp)
    · exact bel_row (three_heap w _ _ _).2.2.2 (by omega)
  case round =>
    obtain ⟨j, B, hj, rfl, hB, hb, hp, ho, hbl⟩ := hrel
    have hn := HON.out
    have hBlt : B < wr.heap.size := (Array.getElem?_eq_some_iff.1 hb.out).1
    have hPlt : w.heap.size < wr.heap.size := (Array.getElem?_eq_some_iff.1 hp.out).1
    have hmz := mapSz_own ho.out
    rw [HSZ.out j hj] at hmz
    by_cases hlt : j < n
    · have HAT := Lib.hid (HNEW.out j hlt)
      go_wp2_with (first
        | (refine wpList_load_row rfl 46 _ rfl B rfl 46 (V (j + 1)) (0, 0) _ hb.out Tryd.underlying46 rfl (HI.out _) ?_)
        | (at_lookup; refine lookup_own_bool _ rfl _ _ 77 rfl 46 4 perm_law Tryd.underlying77 Tryd.underlying4 (zero_bool _) (w.heap.size + 1) j _ rfl ho.out _ _ rfl (HK.out _) false HAT.out ?_)
        | (at_mapUpdate; refine wpList_mapUpdate_own _ rfl _ _ _ 77 rfl 46 4 perm_law Tryd.underlying77 _ (w.heap.size + 1) j _ rfl ho.out (by unfold maxLen; omega) _ _ _ rfl rfl (HK.out _) _ [] (plainElem_bool Tryd.underlying4 true) ?_; intro w1 hown1 hgrow1; have hb1 := (hgrow1.block B hBlt (by simp; omega)).trans hb.out; have hp1 := (hgrow1.block w.heap.size hPlt (by simp)).trans hp.out; have hs1 := hgrow1.size; have hbl1 : Below w.heap.size w w1 := hbl.out.grown hgrow1 hbl.out.size (fun k hk => by cases hk; omega))
        | (refine wpList_load_row rfl 46 _ rfl B rfl 46 (V (j + 1)) (0, 0) _ hb1 Tryd.underlying46 rfl (HI.out _) ?_)
        | (refine wpList_store_row rfl 46 _ _ rfl w1.heap.size (V (j + 1)) rfl rfl 46 (VL z24) (heap_alloc_new w1 _) (HI.out _) (by rw [HS.out]; rfl) (HA.out _) ?_; have hb2 := setRow_heap _ w1.heap.size _ (V (j + 1)) _ _ (heap_alloc_new w1 (Obj.cells (VL z24) 46)); have hp2 := (setRow_other (w1.alloc (Obj.cells (VL z24) 46)) w1.heap.size w.heap.size (V (j + 1)) (by omega)).trans ((Below.heap_alloc _ _ _ (by omega)).trans hp1))
        | (refine wpList_load_row rfl 46 _ rfl w1.heap.size rfl 46 (V (j + 1)) (0, 0) _ hb2 Tryd.underlying46 rfl (HI.out _) ?_)
        | (refine wpList_load_row rfl 46 _ rfl w.heap.size rfl 46 VX (0, 0) _ hp2 Tryd.underlying46 rfl HX.out ?_)
        | (go_at_call 57; refine (HT.out _ _).mono ?_; rintro e w2 ⟨rfl, hg2⟩; have hb3 := (hg2.block w1.heap.size (by simp)).trans hb2; have hp3 := (hg2.block w.heap.size (by simp; omega)).trans hp2)
        | (refine wpList_store_row rfl 46 _ _ rfl w1.heap.size (V (j + 1 + 1)) rfl rfl 46 (V (j + 1)) hb3 (HI.out _) (by rw [HS.out, HS.out]) (HA.out _) ?_))
      have hfin := (hown1.alloc (.cells (VL z24) 46)).kept (grown_setRow _ w1.heap.size (V (j + 1))) (by simp; omega)
      have hfin2 := (hfin.kept (grownQ_below hg2) (by simp)).kept (grown_setRow w2 w1.heap.size (V (j + 1 + 1))) (by simp; omega)
      have hST : (ST j).put (KY (j + 1)) (DataW.lit (Lit.bool true)) = ST (j + 1) := (HSU.out j).symm
      rw [hST] at hfin2
      have hblf : Below w.heap.size w (w2.setRow w1.heap.size (V (j + 1 + 1))) := bel_row ((bel_row (hbl1.alloc (by omega) _) (by omega)).trans (hg2.mono (by simp; omega))) (by omega)
      have hms := mapSz_own hfin2
      rw [HSZ.out (j + 1) (by omega)] at hms
      refine ⟨⟨_, _, _, _, _, _, _, _, _, _, _, ⟨j + 1, w1.heap.size, by omega, rfl, by omega, Lib.hid ?_, Lib.hid ?_, Lib.hid hfin2, Lib.hid hblf⟩, rfl⟩, ?_⟩
      · exact setRow_heap _ _ _ _ _ _ hb3
      · exact (setRow_other _ _ _ _ (by omega)).trans hp3
      · rw [hms, hmz]; omega
    · obtain rfl : j = n := by omega
      have HAT := Lib.hid HOLD.out
      go_wp2_with (first
        | (refine wpList_load_row rfl 46 _ rfl B rfl 46 (V (j + 1)) (0, 0) _ hb.out Tryd.underlying46 rfl (HI.out _) ?_)
        | (at_lookup; refine lookup_own_bool _ rfl _ _ 77 rfl 46 4 perm_law Tryd.underlying77 Tryd.underlying4 (zero_bool _) (w.heap.size + 1) j _ rfl ho.out _ _ rfl (HK.out _) true HAT.out ?_)
        | (at_len; refine wpList_len_own _ rfl _ 77 rfl 46 4 Tryd.underlying77 _ (w.heap.size + 1) j _ rfl ho.out ?_; rw [HSZ.out j (Nat.le_refl j)]))
      go_ret
      exact ⟨rfl, hbl.out⟩
set_option maxRecDepth 100000 in
set_option maxHeartbeats 2000000 in
theorem iPermOrder_calls (A : Option Addr) (c : Nat) (xs : List Int) (w : World) (ha : Rds w w.heap.size .i64 A xs) (hx : xs.length ≤ maxLen) :
    Calls Tryd.prog 11 #[.slice A xs.length c] w fun e w' => e = .returned (.tuple #[.int .i64 (plOrder xs).1, .bool (plOrder xs).2]) ∧ Below w.heap.size w w' := by
  have HF := Lib.hid (permFrom_calls A c xs w ha hx)
  have HI := Lib.hid (pmInfoL (pL xs) (pL_len xs))
  have HSZ := Lib.hid (show (VL (pL xs)).size = 24 by rw [VL_size, pL_len])
  have HALL := Lib.hid (VL_all (pL xs))
  rcases hp : permB xs with _ | _
  · rw [show plOrder xs = (0, false) by simp [plOrder, hp]]
    rw [hp] at HF
    clear ha hx hp
    generalize xs.length = n at *
    generalize VL (pL xs) = V at *
    go_enter Tryd.func11, Tryd.ntmps11
    go_wp2_with fail
    refine HF.out.mono ?_
    rintro e w1 ⟨rfl, b1⟩
    have HN := Lib.hid (Blk.new w1 46 (VL z24))
    have HB := Lib.hid (b1.alloc b1.size (.cells (VL z24) 46))
    have hw1 := b1.size
    clear b1
    go_wp2_with (refine wpList_store_row rfl 46 _ _ rfl w1.heap.size V rfl rfl 46 (VL z24) HN.out HI.out (by rw [HSZ.out]; rfl) HALL.out ?_)
    go_ret2
    exact ⟨rfl, bel_row HB.out hw1⟩
  · rw [plOrder_ord hp]
    have HTU := Lib.hid (fun W => order_calls xs hp W)
    rw [hp] at HF
    rw [pL_yes hp] at HF HI HSZ HALL
    clear ha hx hp
    generalize xs.length = n at *
    generalize ((ordP (natP xs) : Nat) : Int) = T at *
    generalize VL xs = V at *
    go_enter Tryd.func11, Tryd.ntmps11
    go_wp2_with fail
    refine HF.out.mono ?_
    rintro e w1 ⟨rfl, b1⟩
    have HN := Lib.hid (Blk.new w1 46 (VL z24))
    have HB := Lib.hid (b1.alloc b1.size (.cells (VL z24) 46))
    have hw1 := b1.size
    clear b1
    have HN2 : ∀ W, W = (w1.alloc (.cells (VL z24) 46)).setRow w1.heap.size V → W.heap[w1.heap.size]? = some (.cells V 46 (0, 0)) := fun W h => by rw [h]; exact setRow_heap _ _ _ _ _ _ HN.out
    have HN2 := Lib.hid HN2
    go_wp2_with (first
      | (refine wpList_store_row rfl 46 _ _ rfl w1.heap.size V rfl rfl 46 (VL z24) HN.out HI.out (by rw [HSZ.out]; rfl) HALL.out ?_)
      | (refine wpList_load_row rfl 46 _ rfl w1.heap.size rfl 46 V (0, 0) _ (HN2.out _ rfl) Tryd.underlying46 rfl HI.out ?_))
    refine (HTU.out _).mono ?_
    rintro e w2 ⟨rfl, b2⟩
    have HB2 := Lib.hid ((bel_row (T := V) HB.out hw1).trans (b2.mono (bel_row (T := V) HB.out hw1).size))
    clear b2
    go_wp2_with fail
    go_ret2
    exact ⟨rfl, HB2.out⟩
end Go.Proofs.YtepaaijlkimmeaaDoor
