/- What keeps the code, of both sides. -/
import Derived.Test.YtakefnfhjiodnaaDoorC108
import Derived.Test.YtakefnfhjiodnaaDoorC27
import Derived.Test.YtakefnfhjiodnaaDoorC28
import Derived.Test.YtakefnfhjiodnaaDoorQ6
import Derived.Test.YtakefnfhjiodnaaDoorQ2
namespace Go.Proofs.YtakefnfhjiodnaaDoor
open Go.RowKit
set_option linter.unusedVariables false
attribute [local irreducible] cN syn

theorem codeInB_syn (v : Nat) (hv : v < 16777216) : codeInB (v : Int) = (syn v == 0) := by
  rw [Bool.eq_iff_iff, codeIn_iff (v : Int) (by omega) (by omega), beq_iff_eq]
  constructor
  · rintro ⟨m, hm, e⟩
    rw [codeOf_cN m hm] at e
    have : v = cN m := by omega
    rw [this]; exact syn_cN m
  · intro h
    refine ⟨lin gM v, msg_lt v, ?_⟩
    rw [codeOf_cN _ (msg_lt v), ← in_code v hv h]
/-- The first k messages with one bit stay in the code. -/
def kpB (P : List Nat) (k : Nat) : Bool := (List.range k).all fun j => syn (movN P (cN (2 ^ j))) == 0
theorem kpB_succ (P : List Nat) (k : Nat) : kpB P (k + 1) = (kpB P k && (syn (movN P (cN (2 ^ k))) == 0)) := by
  unfold kpB
  rw [List.range_succ, List.all_append]
  simp
theorem kpB_no (P : List Nat) (k j : Nat) (hk : k ≤ j) (h : kpB P k = false) : kpB P j = false := by
  induction j with
  | zero => obtain rfl : k = 0 := by omega
            exact h
  | succ j ih =>
    by_cases e : k = j + 1
    · subst e; exact h
    · rw [kpB_succ, ih (by omega)]; rfl
theorem keepsB_kp {xs : List Int} (h : permB xs = true) : keepsB xs = kpB (natP xs) 12 := by
  unfold keepsB kpB
  rw [h]; rfl
theorem keepsB_no {xs : List Int} (h : permB xs = false) : keepsB xs = false := by simp [keepsB, h]
theorem keepsB_iff {xs : List Int} (h : permB xs = true) : keepsB xs = true ↔ KeepsN (natP xs) := by
  rw [keepsB_kp h]
  simp [kpB, KeepsN]
theorem two_k : ∀ k : Fin 13, ((2 ^ k.val : Nat) : Int) ≤ 4096 ∧ (1 : Int) ≤ ((2 ^ k.val : Nat) : Int) := by decide
theorem load_perm (g : Nat) (VX : Array Value) (hi : (Tryd.prog.info? 48).map (·.size) = some VX.size) (w : World) (hS : w.heap[g]? = some (.cells VX 48 (0, 0))) :
    (Instr.loadAt 48 (.pointer (some ⟨g, 0, none⟩))).run Tryd.prog w = .ok (.agg VX) w := by
  simp only [Instr.loadAt, Instr.sureAddr, Sem.run_bind, Sem.run_pure, Result.andThen_ok, run_loadVar_row w g 48 48 VX (0, 0) _ hS Tryd.underlying48 rfl hi]
set_option maxRecDepth 100000 in
set_option maxHeartbeats 2000000 in
theorem keepsCode_calls (xs : List Int) (hp : permB xs = true) (w : World) (hT : Tab3 w) :
    Calls Tryd.prog 61 #[.agg (VL xs)] w fun e w' => e = .returned (.bool (keepsB xs)) ∧ Below w.heap.size w w' := by
  rw [keepsB_kp hp]
  have hT0 := hT.lt
  have HX := Lib.hid (pmInfoL xs (permB_len hp))
  have HMV := Lib.hid (fun (C : Nat) (hC : C < 16777216) W h => move_calls xs hp (C : Int) ⟨by omega, by omega⟩ W h)
  have HLT := Lib.hid (fun v => movN_lt (permB_perm hp).1 v)
  have HS := Lib.hid (fun k => kpB_succ (natP xs) k)
  have HNO := Lib.hid (fun k => kpB_no (natP xs) k 12)
  have HB0 := Lib.hid ((Below.refl w.heap.size w).alloc (Nat.le_refl _) (.cells (VL xs) 48))
  have HN0 := Lib.hid (Blk.new w 48 (VL xs))
  simp only [Int.toNat_natCast] at HMV
  generalize VL xs = VX at *
  clear hp
  go_enter Tryd.func61, Tryd.ntmps61
  go_wp2_with fail
  go_loopw [3] (fun f wr => ∃ k : Nat, k ≤ 12 ∧ f = .int .u16 ((2 ^ k : Nat) : Int) ∧ Hid (kpB (natP xs) k = true) ∧ Hid (wr.heap[w.heap.size]? = some (.cells VX 48 (0, 0))) ∧ Hid (Below w.heap.size w wr)) (fun f _ => 8192 - (intOf f).toNat)
  case atStart => exact ⟨0, by omega, rfl, Lib.hid rfl, HN0, HB0⟩
  case round =>
    obtain ⟨k, hk, rfl, hkp, h1, hbl⟩ := hrel
    have hsz : w.heap.size < wr.heap.size := (Array.getElem?_eq_some_iff.1 h1.out).1
    obtain ⟨t1, t2⟩ := two_k ⟨k, by omega⟩
    simp only at t1 t2
    by_cases hlt : k < 12
    · have t3 : ((2 ^ k : Nat) : Int) ≤ 2048 := by
        have := (two_k ⟨k + 1, by omega⟩).1
        simp only [Nat.pow_succ] at this
        omega
      have t4 : ((2 ^ (k + 1) : Nat) : Int) = ((2 ^ k : Nat) : Int) * 2 := by rw [Nat.pow_succ]; omega
      have hmul : IntKind.u16.wrap (((2 ^ k : Nat) : Int) * 2) = ((2 ^ (k + 1) : Nat) : Int) := by rw [IntKind.wrap_u16]; omega
      have hk4 : 2 ^ k < 4096 := by omega
      have HM : Hid (IsM ((2 ^ k : Nat) : Int)) := Lib.hid ⟨by omega, by omega⟩
      have HCO := Lib.hid (codeOf_cN (2 ^ k) hk4)
      have HC1 := Lib.hid (cN_lt (2 ^ k))
      have HSK := Lib.hid (HS.out k)
      have hd3 := HLT.out (cN (2 ^ k))
      have HIN := Lib.hid (codeInB_syn (movN (natP xs) (cN (2 ^ k))) hd3)
      have HD : Hid (IsW ((movN (natP xs) (cN (2 ^ k)) : Nat) : Int)) := Lib.hid ⟨by omega, by omega⟩
      rw [hkp.out, Bool.true_and] at HSK
      have HT2 := Lib.hid ((hT.below hbl.out hT0).2)
      clear hd3
      obtain ⟨D, hDe⟩ : ∃ D, movN (natP xs) (cN (2 ^ k)) = D := ⟨_, rfl⟩
      rw [hDe] at HIN HD HSK
      have HDE := Lib.hid hDe
      clear hDe
      generalize cN (2 ^ k) = C at *
      generalize (syn D == 0) = b at *
      obtain ⟨B, hBe⟩ : ∃ B, ((2 ^ k : Nat) : Int) = B := ⟨_, rfl⟩
      rw [hBe] at HM HCO t1 t2 t3 hmul t4 ⊢
      go_wp2_with fail
      refine wp_region_held_drew (S := fun w' => w'.heap[w.heap.size]? = some (Obj.cells VX 48 (0, 0))) (by kernel_rfl) h1.out (fun hd => ?_)
      refine wpAnyH_take (i := 0) (v := .agg VX) rfl (by kernel_rfl) (by kernel_rfl) (by kernel_rfl) (fun _ _ _ h => h) (Or.inl ⟨by kernel_rfl, fun w hS => by have hrow := load_perm _ VX HX.out w hS; change Sem.run Tryd.prog (Instr.loadAt 48 (.pointer (some ⟨_, 0, none⟩)) >>= fun x => pure (Next.value x)) w = _; rw [Sem.run_bind, hrow]; rfl⟩) hd ?_
      change wpAnyH _ _ _ _ _ _ _ (Act.put _ (some 8) (.agg VX)) _
      simp only [Act.put, List.setIfInBounds_toArray, List.set_cons_zero, List.set_cons_succ]
      refine wpAnyH_take (i := 1) (v := .int .u16 B) rfl (by kernel_rfl) (by kernel_rfl) (by kernel_rfl) (fun _ _ _ h => h) (Or.inl ⟨by kernel_rfl, fun w _ => by kernel_rfl⟩) hd ?_
      change wpAnyH _ _ _ _ _ _ _ (Act.put _ (some 9) (.int .u16 B)) _
      simp only [Act.put, List.setIfInBounds_toArray, List.set_cons_zero, List.set_cons_succ]
      refine wpAnyH_ready (rs := [2]) (by kernel_rfl) (by simp) ?_
      refine AllReadyH.cons rfl (fun K hK => ?_) AllReadyH.nil
      go_simp
      go_at_call 78
      refine (message_word _ _ HM.out (by first | exact HT2.out | exact HT2.out.drew)).mono ?_
      rintro e w1 ⟨he, b1⟩
      rw [HCO.out] at he
      subst he
      have hd2 : w1.heap[w.heap.size]? = some (.cells VX 48 (0, 0)) := (b1.block w.heap.size (by first | exact hsz | exact hsz.trans_le (Nat.le_refl _))).trans hd
      have HB1 := Lib.hid (Below.trans (by first | exact hbl.out | exact hbl.out.drew) (b1.mono (by first | exact hbl.out.size | exact hbl.out.drew.size)))
      have HT31 := Lib.hid (hT.below HB1.out hT0)
      have hsz1 : w.heap.size < w1.heap.size := by have := b1.size; exact Nat.lt_of_lt_of_le hsz (by first | exact this | exact this)
      clear b1
      refine hK.out _ _ hd2 (fun _ => ?_)
      refine wpAnyH_ready (rs := [3]) (by kernel_rfl) (by simp) ?_
      refine AllReadyH.cons rfl (fun K hK => ?_) AllReadyH.nil
      go_simp
      go_at_call 55
      refine (HMV.out C HC1.out _ HT31.out.1).mono ?_
      rintro e w2 ⟨he, b2⟩
      rw [HDE.out] at he
      subst he
      have hd2 : w2.heap[w.heap.size]? = some (.cells VX 48 (0, 0)) := (b2.block w.heap.size hsz1).trans hd2
      have HB2 := Lib.hid (HB1.out.trans (b2.mono HB1.out.size))
      have HT32 := Lib.hid (hT.below HB2.out hT0)
      have hsz2 : w.heap.size < w2.heap.size := Nat.lt_of_lt_of_le hsz1 b2.size
      clear b2
      refine hK.out _ _ hd2 (fun _ => ?_)
      refine wpAnyH_ready (rs := [4]) (by kernel_rfl) (by simp) ?_
      refine AllReadyH.cons rfl (fun K hK => ?_) AllReadyH.nil
      go_simp
      go_at_call 67
      refine (word_inCode _ _ HD.out HT32.out).mono ?_
      rintro e w3 ⟨he, b3⟩
      rw [HIN.out] at he
      subst he
      have hd2 : w3.heap[w.heap.size]? = some (.cells VX 48 (0, 0)) := (b3.block w.heap.size hsz2).trans hd2
      have HB3 := Lib.hid (HB2.out.trans (b3.mono HB2.out.size))
      clear b3
      refine hK.out _ _ hd2 (fun _ => ?_)
      refine wpAnyH_take (i := 5) (v := .bool (!b)) rfl (by kernel_rfl) (by kernel_rfl) (by kernel_rfl) (fun _ _ _ h => h) (Or.inl ⟨by kernel_rfl, fun w hS => by go_simp⟩) hd2 ?_
      change wpAnyH _ _ _ _ _ _ _ (Act.put _ (some 13) (.bool (!b))) _
      simp only [Act.put, List.setIfInBounds_toArray, List.set_cons_zero, List.set_cons_succ]
      refine wpAnyH_done (by kernel_rfl) ?_ _
      cases b
      · have HF := Lib.hid (HNO.out (k + 1) (by omega) HSK.out)
        go_wp2_with fail
        go_ret
        exact ⟨by rw [HF.out]; rfl, HB3.out⟩
      · go_wp2_with fail
        go_roundw
        case rel => exact ⟨k + 1, by omega, by rw [t4], HSK, Lib.hid hd2, HB3⟩
        case measure => simp [intOf]; omega
    · obtain rfl : k = 12 := by omega
      go_wp2_with fail
      go_ret
      exact ⟨by rw [hkp.out]; rfl, hbl.out⟩
set_option maxHeartbeats 2000000 in
theorem sPermKeeps_calls (A : Option Addr) (c : Nat) (xs : List Int) (w : World) (ha : Rds w w.heap.size .i64 A xs) (hx : xs.length ≤ maxLen) :
    Calls Tryd.prog 38 #[.slice A xs.length c] w fun e w' => e = .returned (.bool (keepsB xs)) ∧ Below w.heap.size w w' := by
  have HV := Lib.hid (sPermValid_calls A c xs w ha hx)
  rcases hp : permB xs with _ | _
  · rw [keepsB_no hp]
    rw [hp] at HV
    clear ha hx hp
    generalize xs.length = len at *
    go_enter Tryd.func38, Tryd.ntmps38
    go_wp2_with fail
    refine HV.out.mono ?_
    rintro e w1 ⟨rfl, rfl⟩
    go_wp2_with fail
    go_ret
    exact ⟨rfl, Below.refl _ _⟩
  · rw [keepsB_kp hp]
    rw [hp] at HV
    have HMV := Lib.hid (fun (C : Nat) (hC : C < 16777216) (W : World) (h : Below w.heap.size w W) => l7Word_calls A c xs C hC W ((ha.below h).more h.size) hp)
    have HLT := Lib.hid (fun v => movN_lt (permB_perm hp).1 v)
    have HS := Lib.hid (fun k => kpB_succ (natP xs) k)
    have HNO := Lib.hid (fun k => kpB_no (natP xs) k 12)
    clear ha hx hp
    generalize xs.length = len at *
    go_enter Tryd.func38, Tryd.ntmps38
    go_wp2_with fail
    refine HV.out.mono ?_
    rintro e w1 ⟨rfl, rfl⟩
    go_wp2_with fail
    go_loopw [3] (fun f wr => ∃ k : Nat, k ≤ 12 ∧ f = .int .i64 (k : Int) ∧ Hid (kpB (natP xs) k = true) ∧ Hid (Below w.heap.size w wr)) (fun f _ => 12 - (intOf f).toNat)
    case atStart => exact ⟨0, by omega, rfl, Lib.hid rfl, Lib.hid (Below.refl _ _)⟩
    case round =>
      obtain ⟨k, hk, rfl, hkp, hbl⟩ := hrel
      by_cases hlt : k < 12
      · obtain ⟨t1, t2⟩ := two_k ⟨k, by omega⟩
        simp only at t1 t2
        have hpw : wrap64 ((2 : Int) ^ k) = ((2 ^ k : Nat) : Int) := by
          have e : ((2 ^ k : Nat) : Int) = (2 : Int) ^ k := by simp
          rw [← e]
          exact IntWalk.wrap64_in _ (by omega)
        have hk4 : 2 ^ k < 4096 := by
          have := (two_k ⟨k + 1, by omega⟩).1
          simp only [Nat.pow_succ] at this
          omega
        have HCO := Lib.hid (codeOf_cN (2 ^ k) hk4)
        have HC1 := Lib.hid (cN_lt (2 ^ k))
        have HSK := Lib.hid (HS.out k)
        have hd3 := HLT.out (cN (2 ^ k))
        have HIN := Lib.hid (codeInB_syn (movN (natP xs) (cN (2 ^ k))) hd3)
        rw [hkp.out, Bool.true_and] at HSK
        obtain ⟨D, hDe⟩ : ∃ D, movN (natP xs) (cN (2 ^ k)) = D := ⟨_, rfl⟩
        rw [hDe] at HIN HSK hd3
        have HDE := Lib.hid hDe
        clear hDe
        generalize cN (2 ^ k) = C at *
        generalize (syn D == 0) = b at *
        have hk0 : (0 : Int) ≤ (k : Int) := by omega
        have hk1 : (k : Int) < 12 := by omega
        have HPW := Lib.hid hpw
        have HK0 : Hid ((0 : Int) ≤ ((2 ^ k : Nat) : Int)) := Lib.hid (by omega)
        have HK1 : Hid (((2 ^ k : Nat) : Int) ≤ 4095) := Lib.hid (by omega)
        clear t1 t2 hpw hk4
        go_wp2_with fail
        rw [HPW.out]
        refine (l3Of_calls _ _ HK0.out HK1.out).mono ?_
        rintro e w2 ⟨he, b2⟩
        rw [HCO.out] at he
        subst he
        have HB2 := Lib.hid (hbl.out.trans (b2.mono hbl.out.size))
        clear b2
        go_wp2_with fail
        refine (HMV.out C HC1.out _ HB2.out).mono ?_
        rintro e w3 ⟨he, kk, rfl⟩
        rw [HDE.out] at he
        subst he
        have HB3 := Lib.hid (below_drewN HB2.out kk)
        go_wp2_with fail
        refine (l3In_calls _ _ (by omega) (by omega)).mono ?_
        rintro e w4 ⟨he, b4⟩
        rw [HIN.out] at he
        subst he
        have HB4 := Lib.hid (HB3.out.trans (b4.mono HB3.out.size))
        clear b4
        cases b
        · have HF := Lib.hid (HNO.out (k + 1) (by omega) HSK.out)
          go_wp2_with fail
          go_ret
          exact ⟨by rw [HF.out]; rfl, HB4.out⟩
        · go_wp2_with fail
          go_roundw
          case rel => exact ⟨k + 1, by omega, by go_num, HSK, HB4⟩
          case measure => simp [intOf]; omega
      · obtain rfl : k = 12 := by omega
        go_wp2_with fail
        go_ret
        exact ⟨by rw [hkp.out]; rfl, hbl.out⟩
/-- A guarded load of a whole row, its guard fulfilled. -/
theorem wpList_load_row_g {ops : Array Oper} {rest : List Oper} {o : Oper} {a : Act} {w : World} {Q : Exit → Act → World → Prop} (hw : Region.wanted o (yielded ops a.tmps) = true) (ty : TypeId) (x : Operand) (ho : o.op = .load ty x)
    (g : Nat) (hx : a.eval x = .pointer (some ⟨g, 0, none⟩)) (t : TypeId) (cs : Array Value) (fr : Nat × Nat) (n : Nat) (e : TypeId) (hg : w.heap[g]? = some (.cells cs t fr))
    (hu : Tryd.prog.underlying ty = some (.array n e)) (hi : (Tryd.prog.info? ty).map (·.size) = some cs.size)
    (h : wpList Tryd.prog ops Q rest (a.put o.dst (.agg cs)) w) : wpList Tryd.prog ops Q (o :: rest) a w :=
  wpList_step fun _ hK => by
    rw [if_pos hw]
    exact wp_load_row ty x ho g hx t cs fr (.array n e) hg hu rfl hi (hK _ _ h)
set_option maxHeartbeats 2000000 in
theorem iPermKeeps_calls (A : Option Addr) (c : Nat) (xs : List Int) (w : World) (ha : Rds w w.heap.size .i64 A xs) (hx : xs.length ≤ maxLen) (hT : Tab3 w) :
    Calls Tryd.prog 22 #[.slice A xs.length c] w fun e w' => e = .returned (.bool (keepsB xs)) ∧ Below w.heap.size w w' := by
  have HF := Lib.hid (permFrom_calls A c xs w ha hx)
  have HI := Lib.hid (pmInfoL (pL xs) (pL_len xs))
  have HSZ := Lib.hid (show (VL (pL xs)).size = 24 by rw [VL_size, pL_len])
  have HALL := Lib.hid (VL_all (pL xs))
  rcases hp : permB xs with _ | _
  · rw [keepsB_no hp]
    rw [hp] at HF
    clear ha hx hp
    generalize xs.length = len at *
    generalize VL (pL xs) = V at *
    go_enter Tryd.func22, Tryd.ntmps22
    go_wp2_with fail
    refine HF.out.mono ?_
    rintro e w1 ⟨rfl, b1⟩
    have HN := Lib.hid (Blk.new w1 48 (VL z24))
    have HB := Lib.hid (b1.alloc b1.size (.cells (VL z24) 48))
    have hw1 := b1.size
    clear b1
    go_wp2_with (refine wpList_store_row rfl 48 _ _ rfl w1.heap.size V rfl rfl 48 (VL z24) HN.out HI.out (by rw [HSZ.out]; rfl) HALL.out ?_)
    go_ret
    exact ⟨rfl, bel_row HB.out hw1⟩
  · have HTU := Lib.hid (fun W h => keepsCode_calls xs hp W h)
    rw [hp] at HF
    rw [pL_yes hp] at HF HI HSZ HALL
    have hT0 := hT.lt
    clear ha hx hp
    generalize xs.length = len at *
    generalize VL xs = V at *
    generalize keepsB xs = b at *
    go_enter Tryd.func22, Tryd.ntmps22
    go_wp2_with fail
    refine HF.out.mono ?_
    rintro e w1 ⟨rfl, b1⟩
    have HN := Lib.hid (Blk.new w1 48 (VL z24))
    have HB := Lib.hid (bel_row (T := V) (b1.alloc b1.size (.cells (VL z24) 48)) b1.size)
    have HN2 := Lib.hid (show ((w1.alloc (.cells (VL z24) 48)).setRow w1.heap.size V).heap[w1.heap.size]? = some (.cells V 48 (0, 0)) from setRow_heap _ _ _ _ _ _ HN.out)
    have HT2 := Lib.hid (hT.below HB.out hT0)
    clear b1
    go_wp2_with (first
      | (refine wpList_store_row rfl 48 _ _ rfl w1.heap.size V rfl rfl 48 (VL z24) HN.out HI.out (by rw [HSZ.out]; rfl) HALL.out ?_)
      | (refine wpList_load_row_g (by kernel_rfl) 48 _ rfl w1.heap.size rfl 48 V (0, 0) _ _ HN2.out Tryd.underlying48 HI.out ?_))
    refine (HTU.out _ HT2.out).mono ?_
    rintro e w2 ⟨rfl, b2⟩
    have HB2 := Lib.hid (HB.out.trans (b2.mono HB.out.size))
    clear b2
    go_wp2_with fail
    go_ret
    exact ⟨rfl, HB2.out⟩
end Go.Proofs.YtakefnfhjiodnaaDoor
