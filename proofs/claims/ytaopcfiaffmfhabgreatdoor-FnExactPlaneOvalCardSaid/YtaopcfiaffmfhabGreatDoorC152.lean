/- Points of a plane, by the program: what is no point is an error, found by errors.As. -/
import Derived.Test.YtaopcfiaffmfhabGreatDoorC150
import Derived.Test.YtaopcfiaffmfhabGreatDoorC92
import Derived.Test.YtaopcfiaffmfhabGreatDoorC151
import Derived.Test.YtaopcfiaffmfhabGreatDoorC149
namespace Go.Proofs.YtaopcfiaffmfhabGreatDoor
open Go.RowKit
set_option linter.unusedVariables false
attribute [local irreducible] octS cN octF syn

theorem bpInfo : (Tryz.prog.info? 40).map (·.size) = some 22 := by kernel_rfl
set_option maxRecDepth 100000 in
set_option maxHeartbeats 2000000 in
theorem check_calls (V : Array Value) (B : Nat) (hB : B < 16777216) (hV : V.size = 22) (hb : V[21]? = some (.int .u32 (B : Int))) (A : Option Addr) (c : Nat) (xs : List Int) (w : World) (ha : Rds w w.heap.size .i64 A xs) (hx : xs.length ≤ maxLen) :
    Calls Tryz.prog 42 #[.agg V, .slice A xs.length c] w fun e w' => ∃ ev, e = .returned ev ∧ (((xs.all fun x => ptB (B : Int) x) = true ∧ ev = .nilIface) ∨ ((xs.all fun x => ptB (B : Int) x) = false ∧ ∃ n, ev = .iface 56 (.agg #[.int .i64 n]))) ∧ Below w.heap.size w w' := by
  have HY := Lib.hid (fun k (hk : k < xs.length) (h : ptB (B : Int) (xs.getD k 0) = false) => show (xs.all fun x => ptB (B : Int) x) = false by
    rw [List.all_eq_false]
    refine ⟨xs[k], List.getElem_mem hk, ?_⟩
    rw [getD_at _ k hk, h]
    exact Bool.false_ne_true)
  have HN := Lib.hid (fun (h : ∀ j, j < xs.length → ptB (B : Int) (xs.getD j 0) = true) => show (xs.all fun x => ptB (B : Int) x) = true by
    rw [List.all_eq_true]
    intro x hx
    obtain ⟨j, hj, rfl⟩ := List.getElem_of_mem hx
    rw [getD_at _ j hj]
    exact h j hj)
  generalize (xs.all fun x => ptB (B : Int) x) = cc at *
  have HCB := Lib.hid ((cell_of_row (w.alloc (.cells V 40)) w.heap.size 21 V 40 (0, 0) (heap_alloc_new w _)).trans hb)
  have HR := Lib.hid (ha.alloc (Nat.le_refl _) (.cells V 40))
  unfold maxLen at hx
  obtain ⟨n, hn⟩ : ∃ n, xs.length = n := ⟨_, rfl⟩
  rw [hn] at HY HN hx ⊢
  have HLEN := Lib.hid hn
  clear hn ha hb
  go_enter Tryz.func42, Tryz.ntmps42
  go_wp2_with fail
  go_loopw [9] (fun i wr => ∃ k : Nat, k ≤ n ∧ i = .int .i64 k ∧ Hid (wr = w.alloc (.cells V 40) ∧ ∀ j, j < k → ptB (B : Int) (xs.getD j 0) = true)) (fun i _ => n - (intOf i).toNat)
  case atStart => exact ⟨0, by omega, rfl, Lib.hid ⟨rfl, fun j h => absurd h (by omega)⟩⟩
  case round =>
    obtain ⟨k, hk, rfl, hh⟩ := hrel
    obtain ⟨hw, hnn⟩ := hh.out
    subst hw
    have hbel := Lib.hid ((Below.refl w.heap.size w).alloc (Nat.le_refl _) (.cells V 40))
    by_cases hlt : k < n
    · obtain ⟨bb, o, rfl, hb1, hc⟩ := HR.out.at_ (j := k) (by rw [HLEN.out]; exact hlt)
      have HY1 := Lib.hid (HY.out k hlt)
      have HN1 := Lib.hid (fun (h : ptB (B : Int) (xs.getD k 0) = true) j (hj : j < k + 1) => show ptB (B : Int) (xs.getD j 0) = true by
        rcases (by omega : j < k ∨ j = k) with h1 | h1
        · exact hnn j h1
        · rw [h1]; exact h)
      have hq1 : (0 : Int) ≤ (k : Int) := by omega
      have hq2 : (k : Int) < (n : Int) := by omega
      clear hnn hh
      generalize xs.getD k 0 = z at *
      have hcb := HCB.out
      by_cases hin : 0 ≤ z ∧ z ≤ 23
      · rw [ptB_in hin.1 hin.2] at HY1 HN1
        have HPV := Lib.hid (fun W => placeValid_ok z W hin.1 hin.2)
        have HHAS := Lib.hid (fun W => word_has (B : Int) z W (by omega) (by omega) hin.1 (by omega))
        clear hin
        rcases bitI_01 (B : Int) z with hbit | hbit
        · rw [hbit] at HY1 HN1 HHAS
          have HD := Lib.hid (HN1.out rfl)
          clear HN1 HY1 hbit
          go_wp2_with (first
            | (go_at_call 58; refine (HPV.out _).mono ?_; rintro e w' ⟨rfl, rfl⟩)
            | (go_at_call 59; refine (HHAS.out _).mono ?_; rintro e w' ⟨rfl, rfl⟩))
          go_roundw
          case rel => exact ⟨k + 1, by omega, by go_num, Lib.hid ⟨by first | exact rfl | trivial, fun j hj => (by have h := HD.out j hj; simpa using h)⟩⟩
          case measure => simp [intOf]; omega
        · rw [hbit] at HY1 HN1 HHAS
          have hcc := HY1.out rfl
          subst hcc
          clear HN1 HY1 hbit
          go_wp2_with (first
            | (go_at_call 58; refine (HPV.out _).mono ?_; rintro e w' ⟨rfl, rfl⟩)
            | (go_at_call 59; refine (HHAS.out _).mono ?_; rintro e w' ⟨rfl, rfl⟩))
          go_ret
          exact ⟨_, rfl, ⟨_, rfl⟩, hbel.out⟩
      · have hin2 : z < 0 ∨ 23 < z := by omega
        rw [ptB_no hin2] at HY1
        have hcc := HY1.out rfl
        subst hcc
        have HPV := Lib.hid (fun W => placeValid_no z W hin2)
        clear HN1 HY1 hin hin2
        go_wp2_with (go_at_call 58; refine (HPV.out _).mono ?_; rintro e w' ⟨rfl, rfl⟩)
        go_ret
        exact ⟨_, rfl, ⟨_, rfl⟩, hbel.out⟩
    · obtain rfl : k = n := by omega
      have hcc := HN.out hnn
      subst hcc
      clear hnn hh
      go_wp2_with fail
      go_ret
      exact ⟨_, rfl, rfl, hbel.out⟩
theorem npInfo : (Tryz.prog.info? 56).map (·.size) = some 1 := by kernel_rfl
theorem check_good (V : Array Value) (B : Nat) (hB : B < 16777216) (hV : V.size = 22) (hb : V[21]? = some (.int .u32 (B : Int))) (A : Option Addr) (c : Nat) (xs : List Int) (w : World) (ha : Rds w w.heap.size .i64 A xs) (hx : xs.length ≤ maxLen) (h : (xs.all fun x => ptB (B : Int) x) = true) :
    Calls Tryz.prog 42 #[.agg V, .slice A xs.length c] w fun e w' => e = .returned .nilIface ∧ Below w.heap.size w w' := by
  refine (check_calls V B hB hV hb A c xs w ha hx).mono ?_
  rintro e w' ⟨ev, rfl, h1 | h1, hb⟩
  · rw [h1.2]; exact ⟨rfl, hb⟩
  · rw [h] at h1; exact absurd h1.1 (by decide)
theorem check_bad (V : Array Value) (B : Nat) (hB : B < 16777216) (hV : V.size = 22) (hb : V[21]? = some (.int .u32 (B : Int))) (A : Option Addr) (c : Nat) (xs : List Int) (w : World) (ha : Rds w w.heap.size .i64 A xs) (hx : xs.length ≤ maxLen) (h : (xs.all fun x => ptB (B : Int) x) = false) :
    Calls Tryz.prog 42 #[.agg V, .slice A xs.length c] w fun e w' => ∃ n, e = .returned (.iface 56 (.agg #[.int .i64 n])) ∧ Below w.heap.size w w' := by
  refine (check_calls V B hB hV hb A c xs w ha hx).mono ?_
  rintro e w' ⟨ev, rfl, h1 | h1, hb⟩
  · rw [h] at h1; exact absurd h1.1 (by decide)
  · obtain ⟨n, h2⟩ := h1.2
    rw [h2]; exact ⟨n, rfl, hb⟩
set_option maxRecDepth 100000 in
set_option maxHeartbeats 2000000 in
theorem pointsFrom_good (V : Array Value) (B : Nat) (hB : B < 16777216) (hV : V.size = 22) (hb : V[21]? = some (.int .u32 (B : Int))) (A : Option Addr) (c : Nat) (xs : List Int) (cnt t : Int) (ok : Bool) (w : World) (ha : Rds w w.heap.size .i64 A xs) (hx : xs.length ≤ maxLen)
    (hall : (xs.all fun x => ptB (B : Int) x) = true) (hpf : ∀ W, Below w.heap.size w W → Calls Tryz.prog 43 #[.slice A xs.length c, .int .i64 cnt, .int .i64 cnt] W fun e w' => e = .returned (.tuple #[.int .u32 t, .bool ok]) ∧ W = w') :
    Calls Tryz.prog 26 #[.agg V, .slice A xs.length c, .int .i64 cnt] w fun e w' => e = .returned (.tuple #[.int .u32 t, .bool ok]) ∧ Below w.heap.size w w' := by
  have HC := Lib.hid (fun W (h : Below w.heap.size w W) => check_good V B hB hV hb A c xs W ((ha.below h).more h.size) hx hall)
  have HPF := Lib.hid hpf
  have HI := Lib.hid (show (Tryz.prog.info? 40).map (·.size) = some V.size by rw [hV]; exact bpInfo)
  have HB1 := Lib.hid ((((Below.refl w.heap.size w).alloc (Nat.le_refl _) (.cells V 40))).alloc (by simp) (.cells #[.int .i64 0] 56))
  clear ha hx hall hpf hb hV
  generalize xs.length = n at *
  go_enter Tryz.func26, Tryz.ntmps26
  go_wp2_with (first
    | (refine wpList_load_row rfl 40 _ rfl w.heap.size rfl 40 V (0, 0) _ (heap_alloc2_old w _ _) Tryz.underlying40 rfl HI.out ?_))
  refine (HC.out _ HB1.out).mono ?_
  rintro e w2 ⟨rfl, b2⟩
  have HB2 := Lib.hid (HB1.out.trans (b2.mono (by simp; omega)))
  clear b2
  go_wp2_with fail
  refine (as_nil _ _).mono ?_
  rintro e w' ⟨rfl, rfl⟩
  go_wp2_with fail
  refine (HPF.out _ HB2.out).mono ?_
  rintro e w' ⟨rfl, rfl⟩
  go_wp2_with fail
  go_ret2
  exact ⟨rfl, HB2.out⟩
set_option maxRecDepth 100000 in
set_option maxHeartbeats 2000000 in
theorem pointsFrom_bad (V : Array Value) (B : Nat) (hB : B < 16777216) (hV : V.size = 22) (hb : V[21]? = some (.int .u32 (B : Int))) (A : Option Addr) (c : Nat) (xs : List Int) (cnt : Int) (w : World) (ha : Rds w w.heap.size .i64 A xs) (hx : xs.length ≤ maxLen) (hT : TabE w)
    (hall : (xs.all fun x => ptB (B : Int) x) = false) :
    Calls Tryz.prog 26 #[.agg V, .slice A xs.length c, .int .i64 cnt] w fun e w' => e = .returned (.tuple #[.int .u32 0, .bool false]) ∧ Below w.heap.size w w' := by
  have HC := Lib.hid (fun W (h : Below w.heap.size w W) => check_bad V B hB hV hb A c xs W ((ha.below h).more h.size) hx hall)
  have HI := Lib.hid (show (Tryz.prog.info? 40).map (·.size) = some V.size by rw [hV]; exact bpInfo)
  have HB1 := Lib.hid ((((Below.refl w.heap.size w).alloc (Nat.le_refl _) (.cells V 40))).alloc (by simp) (.cells #[.int .i64 0] 56))
  have HG := Lib.hid (show ((w.alloc (.cells V 40)).alloc (.cells #[.int .i64 0] 56)).heap[w.heap.size + 1]? = some (.cells #[.int .i64 0] 56 (0, 0)) by
    have h := heap_alloc_new (w.alloc (.cells V 40)) (.cells #[.int .i64 0] 56)
    simpa using h)
  have HTE := Lib.hid hT
  have HTL := Lib.hid hT.lt
  clear ha hx hall hb hV hT
  generalize xs.length = n at *
  go_enter Tryz.func26, Tryz.ntmps26
  go_wp2_with (first
    | (refine wpList_load_row rfl 40 _ rfl w.heap.size rfl 40 V (0, 0) _ (heap_alloc2_old w _ _) Tryz.underlying40 rfl HI.out ?_))
  refine (HC.out _ HB1.out).mono ?_
  rintro e w2 ⟨n0, rfl, b2⟩
  have HB2 := Lib.hid (HB1.out.trans (b2.mono (by simp; omega)))
  have HG2 := Lib.hid ((b2.block (w.heap.size + 1) (by simp)).trans HG.out)
  have HAS := Lib.hid (as_hit_below n0 ⟨w.heap.size + 1, 0, none⟩ (.int .i64 0) w2 w.heap.size (HTE.out.below HB2.out HTL.out) (by rw [Lib.cell_of_heap HG2.out]; rfl) (Lib.frozen_of_heap HG2.out 0) (by simp) HB2.out.size)
  clear b2
  go_wp2_with fail
  refine HAS.out.mono ?_
  rintro e w3 ⟨rfl, b3⟩
  have HB3 := Lib.hid (HB2.out.trans b3)
  clear b3
  go_wp2_with fail
  go_ret2
  exact ⟨rfl, HB3.out⟩
theorem pts_yes (V : Array Value) (B : Nat) (hB : B < 16777216) (hV : V.size = 22) (hb : V[21]? = some (.int .u32 (B : Int))) (A : Option Addr) (c : Nat) (xs : List Int) (t : Int) (w : World) (ha : Rds w w.heap.size .i64 A xs) (hx : xs.length ≤ maxLen)
    (hall : (xs.all fun x => ptB (B : Int) x) = true) (ht : wof xs = some t) (t0 : 0 ≤ t) (t1 : t ≤ 16777215) :
    Calls Tryz.prog 26 #[.agg V, .slice A xs.length c, .int .i64 (xs.length : Int)] w fun e w' => e = .returned (.tuple #[.int .u32 t, .bool true]) ∧ Below w.heap.size w w' :=
  pointsFrom_good V B hB hV hb A c xs xs.length t true w ha hx hall fun W h => qFrom_yes A c xs _ _ t W ((ha.below h).more h.size) hx (Int.le_refl _) (Int.le_refl _) ht t0 t1
theorem pts_no (V : Array Value) (B : Nat) (hB : B < 16777216) (hV : V.size = 22) (hb : V[21]? = some (.int .u32 (B : Int))) (A : Option Addr) (c : Nat) (xs : List Int) (cnt : Int) (w : World) (ha : Rds w w.heap.size .i64 A xs) (hx : xs.length ≤ maxLen) (hT : TabE w)
    (hno : (xs.all fun x => ptB (B : Int) x) = false ∨ (xs.length : Int) ≠ cnt ∨ wof xs = none) :
    Calls Tryz.prog 26 #[.agg V, .slice A xs.length c, .int .i64 cnt] w fun e w' => e = .returned (.tuple #[.int .u32 0, .bool false]) ∧ Below w.heap.size w w' := by
  rcases hall : (xs.all fun x => ptB (B : Int) x) with _ | _
  · exact pointsFrom_bad V B hB hV hb A c xs cnt w ha hx hT hall
  · refine pointsFrom_good V B hB hV hb A c xs cnt 0 false w ha hx hall fun W h => qFrom_no A c xs _ _ W ((ha.below h).more h.size) hx ?_
    rcases hno with h1 | h1 | h1
    · rw [hall] at h1; exact absurd h1 (by decide)
    · omega
    · exact .inr (.inr h1)
end Go.Proofs.YtaopcfiaffmfhabGreatDoor
