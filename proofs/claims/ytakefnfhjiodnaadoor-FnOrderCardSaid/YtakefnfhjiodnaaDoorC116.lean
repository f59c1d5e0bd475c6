/- Orders, of both sides. -/
import Derived.Test.YtakefnfhjiodnaaDoorC115
import Derived.Test.YtakefnfhjiodnaaDoorM35
import Derived.Test.YtakefnfhjiodnaaDoorC121
import Derived.DeepKeys5
import Derived.Deep.QuietTactic
import Derived.BigQuiet
namespace Go.Proofs.YtakefnfhjiodnaaDoor
open Go.RowKit
set_option linter.unusedVariables false
attribute [local irreducible] cN syn

theorem quietL {P : Program} {f : FuncId} {args : Array Value} {w : World} {n : Nat} {v : Value}
    (h : Calls P f args (w.drewN n) fun e w' => e = .returned v ∧ w.drewN n = w') : Calls P f args (w.drewN n) fun e w'' => e = .returned v ∧ ∃ m, w'' = w.drewN m :=
  h.mono fun _ _ ⟨he, hm⟩ => ⟨he, n, hm.symm⟩
theorem quietAddL {P : Program} {f : FuncId} {args : Array Value} {w : World} {a n : Nat} {v : Value}
    (h : Calls P f args (w.drewN (a + n)) fun e w' => e = .returned v ∧ w.drewN (a + n) = w') :
    Calls P f args (w.drewN (a + n)) fun e w'' => e = .returned v ∧ ∃ m, w'' = w.drewN (a + m) :=
  h.mono fun _ _ ⟨he, hm⟩ => ⟨he, n, hm.symm⟩
theorem lcm_step (n l : Nat) : n / Nat.gcd n l * l = Nat.lcm n l := by
  unfold Nat.lcm
  exact Nat.div_mul_right_comm (Nat.gcd_dvd_left n l) l
set_option maxHeartbeats 1000000 in
theorem l7Gcd_calls (a b : Nat) (ha : a ≤ 1073741824) (hb : b ≤ 1073741824) (w : World) : Calls Tryd.prog 70 #[.int .i64 (a : Int), .int .i64 (b : Int)] w fun e w' => e = .returned (.int .i64 ((Nat.gcd a b : Nat) : Int)) ∧ w = w' := by
  go_enter Tryd.func70, Tryd.ntmps70
  go_wp2_with fail
  go_loopw [0, 1] (fun x y wr => ∃ m n : Nat, m ≤ 1073741824 ∧ n ≤ 1073741824 ∧ x = .int .i64 (m : Int) ∧ y = .int .i64 (n : Int) ∧ Hid (Nat.gcd m n = Nat.gcd a b) ∧ w = wr) (fun _ y _ => (intOf y).toNat)
  case atStart => exact ⟨a, b, ha, hb, rfl, rfl, Lib.hid rfl, rfl⟩
  case round =>
    obtain ⟨m, n, hm, hn, rfl, rfl, hg, hww⟩ := hrel
    subst hww
    by_cases hz : n = 0
    · subst hz
      have e : Nat.gcd m 0 = m := Nat.gcd_zero_right m
      have HG := Lib.hid (show ((m : Nat) : Int) = ((Nat.gcd a b : Nat) : Int) by rw [← hg.out, e])
      clear e
      go_wp2_with fail
      go_ret
      exact ⟨by rw [← HG.out]; rfl, rfl⟩
    · have hn0 : (n : Int) ≠ 0 := by omega
      have hn1 : ((n : Int) != 0) = true := by simpa using hz
      have hn2 : ((n : Int) == 0) = false := by simpa using hz
      have hmod : (m : Int).tmod (n : Int) = ((m % n : Nat) : Int) := by
        rw [Int.tmod_eq_emod_of_nonneg (by omega)]
        omega
      have hlt : m % n < n := Nat.mod_lt m (by omega)
      have HG := Lib.hid (show Nat.gcd n (m % n) = Nat.gcd a b by rw [← hg.out, Nat.gcd_comm m n, Nat.gcd_rec n m, Nat.gcd_comm])
      have hmw : wrap64 ((m : Int).tmod (n : Int)) = ((m % n : Nat) : Int) := by
        rw [hmod]
        exact IntWalk.wrap64_in _ (by omega)
      go_wp2_with fail
      go_roundw
      case rel => exact ⟨n, m % n, hn, by omega, rfl, by first | rfl | exact congrArg (Value.int .i64) hmod | (simp; done) | exact congrArg (Value.int .i64) hmw, HG, by first | exact rfl | trivial⟩
      case measure => simp [intOf]; omega
theorem plOrder_ord {xs : List Int} (h : permB xs = true) : plOrder xs = (((ordP (natP xs) : Nat) : Int), true) := by
  unfold plOrder
  rw [h]; rfl
theorem cyc_nat {xs : List Int} (h : permB xs = true) : ∃ L : List Nat, cycI xs = intP L ∧ L.length ≤ 24 ∧ (∀ x, x ∈ L ↔ x ∈ rawC (natP xs)) ∧ ∀ x ∈ L, 1 ≤ x ∧ x ≤ 24 := by
  obtain ⟨hP, _⟩ := permB_perm h
  have hp := List.mergeSort_perm (intP (rawC (natP xs))) (fun x y => decide (x ≤ y))
  have hm : ∀ x : Int, x ∈ cycI xs ↔ x ∈ intP (rawC (natP xs)) := fun x => hp.mem_iff
  have hnn : ∀ x ∈ cycI xs, 0 ≤ x := fun x hx => by
    obtain ⟨y, _, rfl⟩ := List.mem_map.1 ((hm x).1 hx)
    omega
  have e : intP (natP (cycI xs)) = cycI xs := by
    unfold intP natP
    rw [List.map_map]
    refine (List.map_congr_left fun x hx => ?_).trans (List.map_id _)
    have := hnn x hx
    simp only [Function.comp, id]
    omega
  have hmem : ∀ x, x ∈ natP (cycI xs) ↔ x ∈ rawC (natP xs) := fun x => by
    constructor
    · intro hx
      obtain ⟨y, hy, rfl⟩ := List.mem_map.1 hx
      obtain ⟨z, hz, rfl⟩ := List.mem_map.1 ((hm y).1 hy)
      simpa using hz
    · intro hx
      exact List.mem_map.2 ⟨(x : Int), (hm _).2 (List.mem_map.2 ⟨x, hx, rfl⟩), by simp⟩
  refine ⟨natP (cycI xs), e.symm, ?_, hmem, fun x hx => rawC_rng hP x ((hmem x).1 hx)⟩
  rw [natP_len, show (cycI xs).length = (intP (rawC (natP xs))).length from hp.length_eq, intP_len]
  exact rawC_len hP
theorem lcm_part {L : List Nat} (k : Nat) : lcmL (L.take k) ∣ lcmL L := lcmL_dvd.2 fun x hx => (dvd_lcm_mem L 1).1 x (List.mem_of_mem_take hx)
theorem lcm_take (L : List Nat) (k : Nat) (h : k < L.length) : lcmL (L.take (k + 1)) = Nat.lcm (lcmL (L.take k)) (L.getD k 0) := by
  unfold lcmL
  rw [List.take_succ_eq_append_getElem h, List.foldl_append]
  simp [h]
set_option maxRecDepth 100000 in
set_option maxHeartbeats 2000000 in
theorem sPermOrder_calls (A : Option Addr) (c : Nat) (xs : List Int) (w : World) (ha : Rds w w.heap.size .i64 A xs) (hx : xs.length ≤ maxLen) :
    Calls Tryd.prog 32 #[.slice A xs.length c] w fun e w' => e = .returned (.tuple #[.int .i64 (plOrder xs).1, .bool (plOrder xs).2]) ∧ Below w.heap.size w w' := by
  have HV := Lib.hid (sPermValid_calls A c xs w ha hx)
  rcases hb : permB xs with _ | _
  · rw [show plOrder xs = (0, false) by simp [plOrder, hb]]
    rw [hb] at HV
    clear ha hx hb
    generalize xs.length = n at *
    go_enter Tryd.func32, Tryd.ntmps32
    go_wp2_with fail
    refine HV.out.mono ?_
    rintro e w' ⟨rfl, rfl⟩
    go_wp2_with fail
    go_ret2
    exact ⟨rfl, Below.refl _ _⟩
  · rw [plOrder_ord hb]
    rw [hb] at HV
    have HC := Lib.hid (l7Cycles_calls A c xs w ha hb)
    obtain ⟨L, hL, hLn, hLm, hLr⟩ := cyc_nat hb
    have hO : lcmL L = ordP (natP xs) := lcmL_same hLm
    have hOr := ordP_rng (permB_perm hb).1
    rw [← hO] at hOr ⊢
    rw [hL] at HC
    have HLN := Lib.hid hLn
    have HRG := Lib.hid (fun k (hk : k < L.length) => hLr (L.getD k 0) (by rw [show L.getD k 0 = L[k] by simp [hk]]; exact List.getElem_mem hk))
    have HTK := Lib.hid (fun k hk => lcm_take L k hk)
    have HPT := Lib.hid (fun k => Nat.le_of_dvd (by omega) (lcm_part (L := L) k))
    have HPP := Lib.hid (fun k => show 0 < lcmL (L.take k) from Nat.pos_of_dvd_of_pos (lcm_part (L := L) k) (by omega))
    have HALL := Lib.hid (show lcmL (L.take L.length) = lcmL L by rw [List.take_of_length_le (Nat.le_refl _)])
    have HZ := Lib.hid (show lcmL (L.take 0) = 1 from rfl)
    have HOR := Lib.hid hOr
    clear ha hx hb hL hLn hLm hLr hO hOr
    generalize xs.length = n at *
    go_enter Tryd.func32, Tryd.ntmps32
    go_wp2_with fail
    refine HV.out.mono ?_
    rintro e w' ⟨rfl, rfl⟩
    go_wp2_with fail
    refine HC.out.mono ?_
    rintro e w1 ⟨v, rfl, o1, b1⟩
    obtain ⟨A1, c1, rfl⟩ := o1.slice
    rw [intP_len]
    have hr1 := o1.rds
    have HB1 := Lib.hid b1
    have HO1 := Lib.hid o1
    clear o1 b1
    go_wp2_with fail
    have HA1 := Lib.hid (fun k (hk : k < L.length) => hr1.at_ (j := k) (by rw [intP_len]; exact hk))
    clear hr1
    go_loopw [4, 6] (fun f i wr => ∃ k : Nat, k ≤ L.length ∧ i = .int .i64 k ∧ f = .int .i64 ((lcmL (L.take k) : Nat) : Int) ∧ ∃ m, wr = w1.drewN m) (fun _ i _ => L.length - (intOf i).toNat)
    case atStart => exact ⟨0, by omega, rfl, by rw [HZ.out]; rfl, 0, rfl⟩
    case round =>
      obtain ⟨k, hk, rfl, rfl, j, rfl⟩ := hrel
      by_cases hlt : k < L.length
      · obtain ⟨b1, o1, hA, hbb, hcell⟩ := HA1.out k hlt
        subst hA
        rw [intP_get] at hcell
        have hcell2 : (w1.drewN j).cell? ⟨b1, o1 + k, none⟩ = _ := hcell
        obtain ⟨hl1, hl2⟩ := HRG.out k hlt
        have hn1 := HPP.out k
        have hn2 : lcmL (L.take k) ≤ 16777216 := Nat.le_trans (HPT.out k) HOR.out.2
        have hm2 : lcmL (L.take (k + 1)) ≤ 16777216 := Nat.le_trans (HPT.out (k + 1)) HOR.out.2
        have e1 := lcm_step (lcmL (L.take k)) (L.getD k 0)
        rw [← HTK.out k hlt] at e1
        have HNX := Lib.hid (fun k' (h : k' = k + 1) => show ((lcmL (L.take (k + 1)) : Nat) : Int) = ((lcmL (L.take k') : Nat) : Int) by rw [h])
        generalize lcmL (L.take (k + 1)) = m at *
        generalize lcmL (L.take k) = n1 at *
        generalize L.getD k 0 = l at *
        have hLN := HLN.out
        have hg0 : 0 < Nat.gcd n1 l := Nat.gcd_pos_of_pos_right n1 (by omega)
        have HG := Lib.hid (fun W => l7Gcd_calls n1 l (by omega) (by omega) W)
        have hq1 : (n1 : Int).tdiv ((Nat.gcd n1 l : Nat) : Int) = ((n1 / Nat.gcd n1 l : Nat) : Int) := by
          rw [Int.tdiv_eq_ediv_of_nonneg (by omega)]
          omega
        have hq2 : n1 / Nat.gcd n1 l ≤ n1 := Nat.div_le_self _ _
        have hq3 : ((n1 / Nat.gcd n1 l : Nat) : Int) * (l : Int) = (m : Int) := by rw [← e1]; exact (Int.natCast_mul _ _).symm
        generalize Nat.gcd n1 l = g at *
        generalize n1 / g = q at *
        have hg1 : (g : Int) ≠ 0 := by omega
        have hg2 : ((g : Int) == 0) = false := by simp; omega
        have hk0 : (0 : Int) ≤ (k : Int) := by omega
        go_wp2_with fail
        go_quiet ((go_at_call 70; first | exact quietL (HG.out _) | exact quietAddL (HG.out _)))
        all_goals
          go_wp2_with fail
          go_roundw
          case rel => exact ⟨k + 1, by omega, by go_num, by first | (rw [← HNX.out _ rfl]; done) | (rw [← HNX.out _ rfl]; go_num), _, rfl⟩
          case measure => simp [intOf]; omega
      · obtain rfl : k = L.length := by omega
        rw [HALL.out]
        go_wp2_with fail
        go_ret2
        exact ⟨rfl, below_drewN HB1.out _⟩
theorem keyLits_ints {P : Program} {t e : TypeId} {n : Nat} (hu : P.underlying t = some (.array n e)) (he : P.underlying e = some (.int .i64)) (hc : P.cellsOf t = n) (hce : P.cellsOf e = 1) (xs : List Int) (hl : xs.length = n) (hwf : ∀ x ∈ xs, (Lit.int .i64 x).wf = true) (d : Nat) :
    P.keyLits (d + 2) t (xs.map (Value.int .i64)) = some (xs.map (Lit.int .i64)) := by
  have hm : ∀ (L : List Nat) (g : Nat → List Lit) (f : Nat → Option (List Lit)), (∀ a ∈ L, f a = some (g a)) → L.mapM f = some (L.map g) := by
    intro L g f hf
    induction L with
    | nil => rfl
    | cons a L ih =>
      rw [List.mapM_cons, hf a List.mem_cons_self, ih (fun b hb => hf b (List.mem_cons_of_mem _ hb))]
      rfl
  have h1 : ∀ i ∈ List.range n, P.keyLits (d + 1) e (((xs.map (Value.int .i64)).drop (i * P.cellsOf e)).take (P.cellsOf e)) = some [Lit.int .i64 (xs.getD i 0)] := by
    intro i hi
    have hi' : i < xs.length := by rw [hl]; exact List.mem_range.1 hi
    rw [hce, Nat.mul_one, List.drop_eq_getElem_cons (by simpa using hi'), List.take_succ_cons, List.take_zero]
    have hx : (xs.map (Value.int .i64))[i]'(by simpa using hi') = Value.int .i64 (xs.getD i 0) := by simp [hi']
    rw [hx]
    have hw : (Lit.int .i64 (xs.getD i 0)).wf = true := hwf _ (by rw [show xs.getD i 0 = xs[i] by simp [hi']]; exact List.getElem_mem hi')
    generalize xs.getD i 0 = x at *
    unfold Program.keyLits
    simp only [he]
    rw [if_pos ⟨trivial, hw⟩]
  have h2 : P.keyLits (d + 2) t (xs.map (Value.int .i64)) = (((List.range n).mapM fun i => P.keyLits (d + 1) e (((xs.map (Value.int .i64)).drop (i * P.cellsOf e)).take (P.cellsOf e))).map List.flatten) := by
    conv => lhs; unfold Program.keyLits
    simp only [hu]
    rw [if_pos (by simp [hl, hc])]
  have h3 : ∀ (L : List Nat) (g : Nat → Lit), (L.map fun i => [g i]).flatten = L.map g := by
    intro L g
    induction L with
    | nil => rfl
    | cons a L ih => simp [ih]
  rw [h2, hm _ (fun i => [Lit.int .i64 (xs.getD i 0)]) _ h1, Option.map_some, h3]
  congr 1
  refine List.ext_getElem (by simp [hl]) fun i a b => ?_
  have : i < xs.length := by simpa using b
  simp [this]
theorem key_perm (xs : List Int) (hl : xs.length = 24) (hwf : ∀ x ∈ xs, (Lit.int .i64 x).wf = true) : keyOf Tryd.prog 48 (.agg (VL xs)) = some (.string (keyBytes (xs.map (Lit.int .i64)))) := by
  have hk := keyLits_ints (P := Tryd.prog) Tryd.underlying48 Tryd.underlying3 (by kernel_rfl) (by kernel_rfl) xs hl hwf (Tryd.prog.types.size - 1)
  have hs : Tryd.prog.types.size - 1 + 2 = Tryd.prog.types.size + 1 := by
    have : 1 ≤ Tryd.prog.types.size := by decide +kernel
    omega
  rw [hs] at hk
  unfold keyOf
  simp only [Tryd.underlying48]
  have h1 : Tryd.prog.keyType 48 = true := by kernel_rfl
  have h2 : (Value.agg (VL xs)).formed Tryd.prog 48 = true := by
    have hc : Tryd.prog.cellsOf 48 = 24 := by kernel_rfl
    simp only [Value.formed, Tryd.underlying48, hc, VL_size, hl]
    decide
  rw [h1, h2]
  have e : (Value.agg (VL xs)).cells.toList = xs.map (Value.int .i64) := by simp [Value.cells, VL]
  rw [e, hk]
  rfl
theorem perm_law : Maps.Keyed Tryd.prog 48 := Maps.Keyed.of_law (deep_law_laid (m := 2) (by kernel_rfl) (by decide) (by decide +kernel) (by kernel_rfl) (by kernel_rfl))
theorem pow_key {P : List Nat} (h : PermN P) (j : Nat) : keyOf Tryd.prog 48 (.agg (VL (intP (powN P j)))) = some (kyP (powN P j)) := by
  have hq := powN_perm h j
  refine key_perm _ (by rw [intP_len, hq.1]) fun x hx => ?_
  obtain ⟨y, hy, rfl⟩ := List.mem_map.1 hx
  have := hq.2.2 y hy
  exact WalkArith.wf_i64 (by omega)
theorem VL_inj {xs ys : List Int} (h : VL xs = VL ys) : xs = ys := by
  have e : (VL xs).toList = (VL ys).toList := by rw [h]
  simp only [VL, List.toList_toArray] at e
  have h2 := congrArg (List.map intOf) e
  rw [List.map_map, List.map_map] at h2
  simpa [Function.comp_def, intOf] using h2
theorem ky_inj (a b : List Nat) (ha : PermN a) (hb : PermN b) (h : kyP a = kyP b) : a = b := by
  have e1 := pow_key ha 1
  have e2 := pow_key hb 1
  rw [powN_one ha] at e1
  rw [powN_one hb] at e2
  rw [h] at e1
  have e3 : Value.agg (VL (intP a)) = Value.agg (VL (intP b)) := perm_law.inj e1 e2
  have e4 := VL_inj (Value.agg.inj e3)
  have e5 := congrArg natP e4
  rwa [natP_intP, natP_intP] at e5
theorem grown_setRow (V : World) (g : Nat) (T : Array Value) : V.grownBy (V.setRow g T) (some g) := ⟨rfl, rfl, rfl, by simp, fun i _ hi => setRow_other V g i T (fun e => hi (by rw [e]))⟩
theorem grownQ_below {W W2 : World} (h : Below W.heap.size W W2) : W.grownBy W2 none := ⟨h.os, h.tape, h.output, h.size, fun i hi _ => h.block i hi⟩
theorem zero_bool (w : World) : (zeroValue 4).run Tryd.prog w = .ok (.bool false) w := by kernel_rfl
theorem alloc_two (w : World) (A B : Obj) : ((w.alloc A).alloc B).heap[w.heap.size]? = some A := (Below.heap_alloc _ _ _ (by simp; try omega)).trans (heap_alloc_new w _)
set_option maxRecDepth 100000 in
set_option maxHeartbeats 4000000 in
theorem order_calls (xs : List Int) (hp : permB xs = true) (w : World) :
    Calls Tryd.prog 68 #[.agg (VL xs)] w fun e w' => e = .returned (.int .i64 ((ordP (natP xs) : Nat) : Int)) ∧ Below w.heap.size w w' := by
  have hlx := permB_len hp
  obtain ⟨hP, hN⟩ := permB_perm hp
  have HX := Lib.hid (pmInfoL xs hlx)
  have HVL := Lib.hid (show (VL xs).size = 24 by rw [VL_size, hlx])
  have HVA := Lib.hid (VL_all xs)
  have HI := Lib.hid (fun j => pmInfoL (intP (powN (natP xs) j)) (by rw [intP_len, (powN_perm hP j).1]))
  have HS := Lib.hid (fun j => show (VL (intP (powN (natP xs) j))).size = 24 by rw [VL_size, intP_len, (powN_perm hP j).1])
  have HA := Lib.hid (fun j => VL_all (intP (powN (natP xs) j)))
  have HK := Lib.hid (fun j => pow_key hP j)
  have HON := Lib.hid (ordP_rng hP)
  have HT := Lib.hid (fun j W => show Calls Tryd.prog 58 #[.agg (VL (intP (powN (natP xs) j))), .agg (VL xs)] W fun e w' => e = .returned (.agg (VL (intP (powN (natP xs) (j + 1))))) ∧ Below W.heap.size W w' by
    have h := then_calls (intP (powN (natP xs) j)) xs W (permB_of (powN_perm hP j)) hp
    rw [natP_intP] at h
    exact h)
  have inj : ∀ j k, kyP (powN (natP xs) j) = kyP (powN (natP xs) k) → powN (natP xs) j = powN (natP xs) k := fun j k h => ky_inj _ _ (powN_perm hP j) (powN_perm hP k) h
  have HNEW := Lib.hid (fun j hj => setP_new hP inj j hj)
  have HOLD := Lib.hid (setP_old hP)
  have HSZ := Lib.hid (fun j hj => setP_size hP inj j hj)
  have HSU := Lib.hid (fun j => setP_succ (natP xs) j)
  have HP1 := Lib.hid (show VL xs = VL (intP (powN (natP xs) (0 + 1))) by rw [powN_one hP, hN])
  have hmm := @run_makeMap Tryd.prog
  generalize ordP (natP xs) = n at *
  obtain ⟨V, hV⟩ : ∃ V : Nat → Array Value, (fun j => VL (intP (powN (natP xs) j))) = V := ⟨_, rfl⟩
  have hVj : ∀ j, VL (intP (powN (natP xs) j)) = V j := fun j => by rw [← hV]
  obtain ⟨KY, hKY⟩ : ∃ V : Nat → Lit, (fun j => kyP (powN (natP xs) j)) = V := ⟨_, rfl⟩
  have hKj : ∀ j, kyP (powN (natP xs) j) = KY j := fun j => by rw [← hKY]
  obtain ⟨ST, hST⟩ : ∃ V : Nat → DataW Unit, (fun j => setP (natP xs) j) = V := ⟨_, rfl⟩
  have hSj : ∀ j, setP (natP xs) j = ST j := fun j => by rw [← hST]
  have HS0 := Lib.hid (show ST 0 = .map [] by rw [← hSj]; rfl)
  simp only [hVj, hKj, hSj] at HI HS HA HK HT HNEW HOLD HSZ HSU HP1 inj
  generalize VL xs = VX at *
  have HPX := HP1
  clear HP1 inj hVj hKj hSj hV hKY hST hP hN hlx hp
  go_enter Tryd.func68, Tryd.ntmps68
  go_wp2_with (first
    | (refine wpList_load_row rfl 48 _ rfl w.heap.size rfl 48 VX (0, 0) _ (alloc_two w _ _) Tryd.underlying48 rfl HX.out ?_)
    | (refine wpList_store_row rfl 48 _ _ rfl (w.heap.size + 2) VX rfl rfl 48 (VL z24) (three_heap w _ _ _).2.2.1 HX.out (by rw [HVL.out]; rfl) HVA.out ?_))
  go_frame
  go_loopw [4] (fun ad wr => ∃ j B : Nat, j ≤ n ∧ ad = .pointer (some ⟨B, 0, none⟩) ∧ w.heap.size + 2 ≤ B ∧ Hid (wr.heap[B]? = some (.cells (V (j + 1)) 48 (0, 0))) ∧ Hid (wr.heap[w.heap.size]? = some (.cells VX 48 (0, 0))) ∧ Hid (wr.ownsMap Tryd.prog 48 (plainElem Tryd.prog 4) (w.heap.size + 1) j (ST j)) ∧ Hid (Below w.heap.size w wr)) (fun _ wr => n - mapSz wr (w.heap.size + 1))
  case atStart =>
    refine ⟨0, w.heap.size + 2, by omega, rfl, by omega, Lib.hid ?_, Lib.hid ?_, Lib.hid ?_, Lib.hid ?_⟩
    · rw [← HPX.out]
      exact setRow_heap _ _ _ _ _ _ (three_heap w _ _ _).2.2.1
    · exact (setRow_other _ _ _ _ (by omega)).trans (three_heap w _ _ _).1
    · rw [HS0.out]
      have h := World.ownsMap_made (H := Unit) (w.alloc (.cells VX 48)) Tryd.prog 48 (plainElem Tryd.prog 4)
      rw [alloc_sz] at h
      exact (h.alloc _).kept (grown_setRow _ _ _) (by simp)
    · exact bel_row (three_heap w _ _ _).2.2.2 (by omega)
  case round =>
    obtain ⟨j, B, hj, rfl, hB, hb, hp, ho, hbl⟩ := hrel
    have hn := HON.out
    have hBlt : B < wr.heap.size := (Array.getElem?_eq_some_iff.1 hb.out).1
    have hPlt : w.heap.size < wr.heap.size := (Array.getElem?_eq_some_iff.1 hp.out).1
    have hmz := mapSz_own ho.out
    rw [HSZ.out j hj] at hmz
    by_cases hlt : j < n
    · have HAT := Lib.hid (HNEW.out j hlt)
      go_wp2_with (first
        | (refine wpList_load_row rfl 48 _ rfl B rfl 48 (V (j + 1)) (0, 0) _ hb.out Tryd.underlying48 rfl (HI.out _) ?_)
        | (at_lookup; refine lookup_own_bool _ rfl _ _ 98 rfl 48 4 perm_law Tryd.underlying98 Tryd.underlying4 (zero_bool _) (w.heap.size + 1) j _ rfl ho.out _ _ rfl (HK.out _) false HAT.out ?_)
        | (at_mapUpdate; refine wpList_mapUpdate_own _ rfl _ _ _ 98 rfl 48 4 perm_law Tryd.underlying98 _ (w.heap.size + 1) j _ rfl ho.out (by unfold maxLen; omega) _ _ _ rfl rfl (HK.out _) _ [] (plainElem_bool Tryd.underlying4 true) ?_; intro w1 hown1 hgrow1; have hb1 := (hgrow1.block B hBlt (by simp; omega)).trans hb.out; have hp1 := (hgrow1.block w.heap.size hPlt (by simp)).trans hp.out; have hs1 := hgrow1.size; have hbl1 : Below w.heap.size w w1 := hbl.out.grown hgrow1 hbl.out.size (fun k hk => by cases hk; omega))
        | (refine wpList_load_row rfl 48 _ rfl B rfl 48 (V (j + 1)) (0, 0) _ hb1 Tryd.underlying48 rfl (HI.out _) ?_)
        | (refine wpList_store_row rfl 48 _ _ rfl w1.heap.size (V (j + 1)) rfl rfl 48 (VL z24) (heap_alloc_new w1 _) (HI.out _) (by rw [HS.out]; rfl) (HA.out _) ?_; have hb2 := setRow_heap _ w1.heap.size _ (V (j + 1)) _ _ (heap_alloc_new w1 (Obj.cells (VL z24) 48)); have hp2 := (setRow_other (w1.alloc (Obj.cells (VL z24) 48)) w1.heap.size w.heap.size (V (j + 1)) (by omega)).trans ((Below.heap_alloc _ _ _ (by omega)).trans hp1))
        | (refine wpList_load_row rfl 48 _ rfl w1.heap.size rfl 48 (V (j + 1)) (0, 0) _ hb2 Tryd.underlying48 rfl (HI.out _) ?_)
        | (refine wpList_load_row rfl 48 _ rfl w.heap.size rfl 48 VX (0, 0) _ hp2 Tryd.underlying48 rfl HX.out ?_)
        | (go_at_call 58; refine (HT.out _ _).mono ?_; rintro e w2 ⟨rfl, hg2⟩; have hb3 := (hg2.block w1.heap.size (by simp)).trans hb2; have hp3 := (hg2.block w.heap.size (by simp; omega)).trans hp2)
        | (refine wpList_store_row rfl 48 _ _ rfl w1.heap.size (V (j + 1 + 1)) rfl rfl 48 (V (j + 1)) hb3 (HI.out _) (by rw [HS.out, HS.out]) (HA.out _) ?_))
      have hfin := (hown1.alloc (.cells (VL z24) 48)).kept (grown_setRow _ w1.heap.size (V (j + 1))) (by simp; omega)
      have hfin2 := (hfin.kept (grownQ_below hg2) (by simp)).kept (grown_setRow w2 w1.heap.size (V (j + 1 + 1))) (by simp; omega)
      have hST : (ST j).put (KY (j + 1)) (DataW.lit (Lit.bool true)) = ST (j + 1) := (HSU.out j).symm
      rw [hST] at hfin2
      have hblf : Below w.heap.size w (w2.setRow w1.heap.size (V (j + 1 + 1))) := bel_row ((bel_row (hbl1.alloc (by omega) _) (by omega)).trans (hg2.mono (by simp; omega))) (by omega)
      have hms := mapSz_own hfin2
      rw [HSZ.out (j + 1) (by omega)] at hms
      refine ⟨⟨_, _, _, _, _, _, _, _, _, _, _, ⟨j + 1, w1.heap.size, by omega, rfl, by omega, Lib.hid ?_, Lib.hid ?_, Lib.hid hfin2, Lib.hid hblf⟩, rfl⟩, ?_⟩
      · exact setRow_heap _ _ _ _ _ _ hb3
      · exact (setRow_other _ _ _ _ (by omega)).trans hp3
      · rw [hms, hmz]; omega
    · obtain rfl : j = n := by omega
      have HAT := Lib.hid HOLD.out
      go_wp2_with (first
        | (refine wpList_load_row rfl 48 _ rfl B rfl 48 (V (j + 1)) (0, 0) _ hb.out Tryd.underlying48 rfl (HI.out _) ?_)
        | (at_lookup; refine lookup_own_bool _ rfl _ _ 98 rfl 48 4 perm_law Tryd.underlying98 Tryd.underlying4 (zero_bool _) (w.heap.size + 1) j _ rfl ho.out _ _ rfl (HK.out _) true HAT.out ?_)
        | (at_len; refine wpList_len_own _ rfl _ 98 rfl 48 4 Tryd.underlying98 _ (w.heap.size + 1) j _ rfl ho.out ?_; rw [HSZ.out j (Nat.le_refl j)]))
      go_ret
      exact ⟨rfl, hbl.out⟩
set_option maxRecDepth 100000 in
set_option maxHeartbeats 2000000 in
theorem iPermOrder_calls (A : Option Addr) (c : Nat) (xs : List Int) (w : World) (ha : Rds w w.heap.size .i64 A xs) (hx : xs.length ≤ maxLen) :
    Calls Tryd.prog 31 #[.slice A xs.length c] w fun e w' => e = .returned (.tuple #[.int .i64 (plOrder xs).1, .bool (plOrder xs).2]) ∧ Below w.heap.size w w' := by
  have HF := Lib.hid (permFrom_calls A c xs w ha hx)
  have HI := Lib.hid (pmInfoL (pL xs) (pL_len xs))
  have HSZ := Lib.hid (show (VL (pL xs)).size = 24 by rw [VL_size, pL_len])
  have HALL := Lib.hid (VL_all (pL xs))
  rcases hp : permB xs with _ | _
  · rw [show plOrder xs = (0, false) by simp [plOrder, hp]]
    rw [hp] at HF
    clear ha hx hp
    generalize xs.length = n at *
    generalize VL (pL xs) = V at *
    go_enter Tryd.func31, Tryd.ntmps31
    go_wp2_with fail
    refine HF.out.mono ?_
    rintro e w1 ⟨rfl, b1⟩
    have HN := Lib.hid (Blk.new w1 48 (VL z24))
    have HB := Lib.hid (b1.alloc b1.size (.cells (VL z24) 48))
    have hw1 := b1.size
    clear b1
    go_wp2_with (refine wpList_store_row rfl 48 _ _ rfl w1.heap.size V rfl rfl 48 (VL z24) HN.out HI.out (by rw [HSZ.out]; rfl) HALL.out ?_)
    go_ret2
    exact ⟨rfl, bel_row HB.out hw1⟩
  · rw [plOrder_ord hp]
    have HTU := Lib.hid (fun W => order_calls xs hp W)
    rw [hp] at HF
    rw [pL_yes hp] at HF HI HSZ HALL
    clear ha hx hp
    generalize xs.length = n at *
    generalize ((ordP (natP xs) : Nat) : Int) = T at *
    generalize VL xs = V at *
    go_enter Tryd.func31, Tryd.ntmps31
    go_wp2_with fail
    refine HF.out.mono ?_
    rintro e w1 ⟨rfl, b1⟩
    have HN := Lib.hid (Blk.new w1 48 (VL z24))
    have HB := Lib.hid (b1.alloc b1.size (.cells (VL z24) 48))
    have hw1 := b1.size
    clear b1
    have HN2 : ∀ W, W = (w1.alloc (.cells (VL z24) 48)).setRow w1.heap.size V → W.heap[w1.heap.size]? = some (.cells V 48 (0, 0)) := fun W h => by rw [h]; exact setRow_heap _ _ _ _ _ _ HN.out
    have HN2 := Lib.hid HN2
    go_wp2_with (first
      | (refine wpList_store_row rfl 48 _ _ rfl w1.heap.size V rfl rfl 48 (VL z24) HN.out HI.out (by rw [HSZ.out]; rfl) HALL.out ?_)
      | (refine wpList_load_row rfl 48 _ rfl w1.heap.size rfl 48 V (0, 0) _ (HN2.out _ rfl) Tryd.underlying48 rfl HI.out ?_))
    refine (HTU.out _).mono ?_
    rintro e w2 ⟨rfl, b2⟩
    have HB2 := Lib.hid ((bel_row (T := V) HB.out hw1).trans (b2.mono (bel_row (T := V) HB.out hw1).size))
    clear b2
    go_wp2_with fail
    go_ret2
    exact ⟨rfl, HB2.out⟩
end Go.Proofs.YtakefnfhjiodnaaDoor
