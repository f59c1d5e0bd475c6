/- Joined texts: C109 C113 C164. -/
import Derived.Test.YtiodikflmijhkaaGreatDoorJ13
import Derived.Test.YtiodikflmijhkaaGreatDoorJ10
import Derived.Test.YtiodikflmijhkaaGreatDoorJ12
import Derived.Test.YtiodikflmijhkaaGreatDoorJ09
import Derived.Test.YtiodikflmijhkaaGreatDoorJ08
import Derived.Test.YtiodikflmijhkaaGreatDoorJ11
import Derived.Test.YtiodikflmijhkaaGreatDoorJ05
import Derived.Test.YtiodikflmijhkaaGreatDoorJ06
import Derived.BigQuiet
import Derived.Deep.RegionHeld3
import Derived.Deep.AppendLies
section
namespace Go.Proofs.YtiodikflmijhkaaGreatDoor
open Go.RowKit
set_option linter.unusedVariables false
attribute [local irreducible] cN syn

theorem codeInB_syn (v : Nat) (hv : v < 16777216) : codeInB (v : Int) = (syn v == 0) := by
  rw [Bool.eq_iff_iff, codeIn_iff (v : Int) (by omega) (by omega), beq_iff_eq]
  constructor
  · rintro ⟨m, hm, e⟩
    rw [codeOf_cN m hm] at e
    have : v = cN m := by omega
    rw [this]; exact syn_cN m
  · intro h
    refine ⟨lin gM v, msg_lt v, ?_⟩
    rw [codeOf_cN _ (msg_lt v), ← in_code v hv h]
/-- The first k messages with one bit stay in the code. -/
def kpB (P : List Nat) (k : Nat) : Bool := (List.range k).all fun j => syn (movN P (cN (2 ^ j))) == 0
theorem kpB_succ (P : List Nat) (k : Nat) : kpB P (k + 1) = (kpB P k && (syn (movN P (cN (2 ^ k))) == 0)) := by
  unfold kpB
  rw [List.range_succ, List.all_append]
  simp
theorem kpB_no (P : List Nat) (k j : Nat) (hk : k ≤ j) (h : kpB P k = false) : kpB P j = false := by
  induction j with
  | zero => obtain rfl : k = 0 := by omega
            exact h
  | succ j ih =>
    by_cases e : k = j + 1
    · subst e; exact h
    · rw [kpB_succ, ih (by omega)]; rfl
theorem keepsB_kp {xs : List Int} (h : permB xs = true) : keepsB xs = kpB (natP xs) 12 := by
  unfold keepsB kpB
  rw [h]; rfl
theorem keepsB_no {xs : List Int} (h : permB xs = false) : keepsB xs = false := by simp [keepsB, h]
theorem keepsB_iff {xs : List Int} (h : permB xs = true) : keepsB xs = true ↔ KeepsN (natP xs) := by
  rw [keepsB_kp h]
  simp [kpB, KeepsN]
theorem two_k : ∀ k : Fin 13, ((2 ^ k.val : Nat) : Int) ≤ 4096 ∧ (1 : Int) ≤ ((2 ^ k.val : Nat) : Int) := by decide
theorem load_perm (g : Nat) (VX : Array Value) (hi : (Tryz.prog.info? 39).map (·.size) = some VX.size) (w : World) (hS : w.heap[g]? = some (.cells VX 39 (0, 0))) :
    (Instr.loadAt 39 (.pointer (some ⟨g, 0, none⟩))).run Tryz.prog w = .ok (.agg VX) w := by
  simp only [Instr.loadAt, Instr.sureAddr, Sem.run_bind, Sem.run_pure, Result.andThen_ok, run_loadVar_row w g 39 39 VX (0, 0) _ hS Tryz.underlying39 rfl hi]
set_option maxRecDepth 100000 in
set_option maxHeartbeats 2000000 in
theorem keepsCode_calls (xs : List Int) (hp : permB xs = true) (w : World) (hT : Tab3 w) :
    Calls Tryz.prog 24 #[.agg (VL xs)] w fun e w' => e = .returned (.bool (keepsB xs)) ∧ Below w.heap.size w w' := by
  rw [keepsB_kp hp]
  have hT0 := hT.lt
  have HX := Lib.hid (pmInfoL xs (permB_len hp))
  have HMV := Lib.hid (fun (C : Nat) (hC : C < 16777216) W h => move_calls xs hp (C : Int) ⟨by omega, by omega⟩ W h)
  have HLT := Lib.hid (fun v => movN_lt (permB_perm hp).1 v)
  have HS := Lib.hid (fun k => kpB_succ (natP xs) k)
  have HNO := Lib.hid (fun k => kpB_no (natP xs) k 12)
  have HB0 := Lib.hid ((Below.refl w.heap.size w).alloc (Nat.le_refl _) (.cells (VL xs) 39))
  have HN0 := Lib.hid (Blk.new w 39 (VL xs))
  simp only [Int.toNat_natCast] at HMV
  generalize VL xs = VX at *
  clear hp
  go_enter Tryz.func24, Tryz.ntmps24
  go_wp2_with fail
  go_loopw [3] (fun f wr => ∃ k : Nat, k ≤ 12 ∧ f = .int .u16 ((2 ^ k : Nat) : Int) ∧ Hid (kpB (natP xs) k = true) ∧ Hid (wr.heap[w.heap.size]? = some (.cells VX 39 (0, 0))) ∧ Hid (Below w.heap.size w wr)) (fun f _ => 8192 - (intOf f).toNat)
  case atStart => exact ⟨0, by omega, rfl, Lib.hid rfl, HN0, HB0⟩
  case round =>
    obtain ⟨k, hk, rfl, hkp, h1, hbl⟩ := hrel
    have hsz : w.heap.size < wr.heap.size := (Array.getElem?_eq_some_iff.1 h1.out).1
    obtain ⟨t1, t2⟩ := two_k ⟨k, by omega⟩
    simp only at t1 t2
    by_cases hlt : k < 12
    · have t3 : ((2 ^ k : Nat) : Int) ≤ 2048 := by
        have := (two_k ⟨k + 1, by omega⟩).1
        simp only [Nat.pow_succ] at this
        omega
      have t4 : ((2 ^ (k + 1) : Nat) : Int) = ((2 ^ k : Nat) : Int) * 2 := by rw [Nat.pow_succ]; omega
      have hmul : IntKind.u16.wrap (((2 ^ k : Nat) : Int) * 2) = ((2 ^ (k + 1) : Nat) : Int) := by rw [IntKind.wrap_u16]; omega
      have hk4 : 2 ^ k < 4096 := by omega
      have HM : Hid (IsM ((2 ^ k : Nat) : Int)) := Lib.hid ⟨by omega, by omega⟩
      have HCO := Lib.hid (codeOf_cN (2 ^ k) hk4)
      have HC1 := Lib.hid (cN_lt (2 ^ k))
      have HSK := Lib.hid (HS.out k)
      have hd3 := HLT.out (cN (2 ^ k))
      have HIN := Lib.hid (codeInB_syn (movN (natP xs) (cN (2 ^ k))) hd3)
      have HD : Hid (IsW ((movN (natP xs) (cN (2 ^ k)) : Nat) : Int)) := Lib.hid ⟨by omega, by omega⟩
      rw [hkp.out, Bool.true_and] at HSK
      have HT2 := Lib.hid ((hT.below hbl.out hT0).2)
      clear hd3
      obtain ⟨D, hDe⟩ : ∃ D, movN (natP xs) (cN (2 ^ k)) = D := ⟨_, rfl⟩
      rw [hDe] at HIN HD HSK
      have HDE := Lib.hid hDe
      clear hDe
      generalize cN (2 ^ k) = C at *
      generalize (syn D == 0) = b at *
      obtain ⟨B, hBe⟩ : ∃ B, ((2 ^ k : Nat) : Int) = B := ⟨_, rfl⟩
      rw [hBe] at HM HCO t1 t2 t3 hmul t4 ⊢
      go_wp2_with fail
      refine wp_region_held_drew (S := fun w' => w'.heap[w.heap.size]? = some (Obj.cells VX 39 (0, 0))) (by kernel_rfl) h1.out (fun hd => ?_)
      refine wpAnyH_take (i := 0) (v := .agg VX) rfl (by kernel_rfl) (by kernel_rfl) (by kernel_rfl) (fun _ _ _ h => h) (Or.inl ⟨by kernel_rfl, fun w hS => by have hrow := load_perm _ VX HX.out w hS; change Sem.run Tryz.prog (Instr.loadAt 39 (.pointer (some ⟨_, 0, none⟩)) >>= fun x => pure (Next.value x)) w = _; rw [Sem.run_bind, hrow]; rfl⟩) hd ?_
      change wpAnyH _ _ _ _ _ _ _ (Act.put _ (some 8) (.agg VX)) _
      simp only [Act.put, List.setIfInBounds_toArray, List.set_cons_zero, List.set_cons_succ]
      refine wpAnyH_take (i := 1) (v := .int .u16 B) rfl (by kernel_rfl) (by kernel_rfl) (by kernel_rfl) (fun _ _ _ h => h) (Or.inl ⟨by kernel_rfl, fun w _ => by kernel_rfl⟩) hd ?_
      change wpAnyH _ _ _ _ _ _ _ (Act.put _ (some 9) (.int .u16 B)) _
      simp only [Act.put, List.setIfInBounds_toArray, List.set_cons_zero, List.set_cons_succ]
      refine wpAnyH_ready (rs := [2]) (by kernel_rfl) (by simp) ?_
      refine AllReadyH.cons rfl (fun K hK => ?_) AllReadyH.nil
      go_simp
      go_at_call 49
      refine (message_word _ _ HM.out (by first | exact HT2.out | exact HT2.out.drew)).mono ?_
      rintro e w1 ⟨he, b1⟩
      rw [HCO.out] at he
      subst he
      have hd2 : w1.heap[w.heap.size]? = some (.cells VX 39 (0, 0)) := (b1.block w.heap.size (by first | exact hsz | exact hsz.trans_le (Nat.le_refl _))).trans hd
      have HB1 := Lib.hid (Below.trans (by first | exact hbl.out | exact hbl.out.drew) (b1.mono (by first | exact hbl.out.size | exact hbl.out.drew.size)))
      have HT31 := Lib.hid (hT.below HB1.out hT0)
      have hsz1 : w.heap.size < w1.heap.size := by have := b1.size; exact Nat.lt_of_lt_of_le hsz (by first | exact this | exact this)
      clear b1
      refine hK.out _ _ hd2 (fun _ => ?_)
      refine wpAnyH_ready (rs := [3]) (by kernel_rfl) (by simp) ?_
      refine AllReadyH.cons rfl (fun K hK => ?_) AllReadyH.nil
      go_simp
      go_at_call 48
      refine (HMV.out C HC1.out _ HT31.out.1).mono ?_
      rintro e w2 ⟨he, b2⟩
      rw [HDE.out] at he
      subst he
      have hd2 : w2.heap[w.heap.size]? = some (.cells VX 39 (0, 0)) := (b2.block w.heap.size hsz1).trans hd2
      have HB2 := Lib.hid (HB1.out.trans (b2.mono HB1.out.size))
      have HT32 := Lib.hid (hT.below HB2.out hT0)
      have hsz2 : w.heap.size < w2.heap.size := Nat.lt_of_lt_of_le hsz1 b2.size
      clear b2
      refine hK.out _ _ hd2 (fun _ => ?_)
      refine wpAnyH_ready (rs := [4]) (by kernel_rfl) (by simp) ?_
      refine AllReadyH.cons rfl (fun K hK => ?_) AllReadyH.nil
      go_simp
      go_at_call 50
      refine (word_inCode _ _ HD.out HT32.out).mono ?_
      rintro e w3 ⟨he, b3⟩
      rw [HIN.out] at he
      subst he
      have hd2 : w3.heap[w.heap.size]? = some (.cells VX 39 (0, 0)) := (b3.block w.heap.size hsz2).trans hd2
      have HB3 := Lib.hid (HB2.out.trans (b3.mono HB2.out.size))
      clear b3
      refine hK.out _ _ hd2 (fun _ => ?_)
      refine wpAnyH_take (i := 5) (v := .bool (!b)) rfl (by kernel_rfl) (by kernel_rfl) (by kernel_rfl) (fun _ _ _ h => h) (Or.inl ⟨by kernel_rfl, fun w hS => by go_simp⟩) hd2 ?_
      change wpAnyH _ _ _ _ _ _ _ (Act.put _ (some 13) (.bool (!b))) _
      simp only [Act.put, List.setIfInBounds_toArray, List.set_cons_zero, List.set_cons_succ]
      refine wpAnyH_done (by kernel_rfl) ?_ _
      cases b
      · have HF := Lib.hid (HNO.out (k + 1) (by omega) HSK.out)
        go_wp2_with fail
        go_ret
        exact ⟨by rw [HF.out]; rfl, HB3.out⟩
      · go_wp2_with fail
        go_roundw
        case rel => exact ⟨k + 1, by omega, by rw [t4], HSK, Lib.hid hd2, HB3⟩
        case measure => simp [intOf]; omega
    · obtain rfl : k = 12 := by omega
      go_wp2_with fail
      go_ret
      exact ⟨by rw [hkp.out]; rfl, hbl.out⟩
/-- A guarded load of a whole row, its guard fulfilled. -/
theorem wpList_load_row_g {ops : Array Oper} {rest : List Oper} {o : Oper} {a : Act} {w : World} {Q : Exit → Act → World → Prop} (hw : Region.wanted o (yielded ops a.tmps) = true) (ty : TypeId) (x : Operand) (ho : o.op = .load ty x)
    (g : Nat) (hx : a.eval x = .pointer (some ⟨g, 0, none⟩)) (t : TypeId) (cs : Array Value) (fr : Nat × Nat) (n : Nat) (e : TypeId) (hg : w.heap[g]? = some (.cells cs t fr))
    (hu : Tryz.prog.underlying ty = some (.array n e)) (hi : (Tryz.prog.info? ty).map (·.size) = some cs.size)
    (h : wpList Tryz.prog ops Q rest (a.put o.dst (.agg cs)) w) : wpList Tryz.prog ops Q (o :: rest) a w :=
  wpList_step fun _ hK => by
    rw [if_pos hw]
    exact wp_load_row ty x ho g hx t cs fr (.array n e) hg hu rfl hi (hK _ _ h)
set_option maxHeartbeats 2000000 in
theorem iPermKeeps_calls (A : Option Addr) (c : Nat) (xs : List Int) (w : World) (ha : Rds w w.heap.size .i64 A xs) (hx : xs.length ≤ maxLen) (hT : Tab3 w) :
    Calls Tryz.prog 10 #[.slice A xs.length c] w fun e w' => e = .returned (.bool (keepsB xs)) ∧ Below w.heap.size w w' := by
  have HF := Lib.hid (permFrom_calls A c xs w ha hx)
  have HI := Lib.hid (pmInfoL (pL xs) (pL_len xs))
  have HSZ := Lib.hid (show (VL (pL xs)).size = 24 by rw [VL_size, pL_len])
  have HALL := Lib.hid (VL_all (pL xs))
  rcases hp : permB xs with _ | _
  · rw [keepsB_no hp]
    rw [hp] at HF
    clear ha hx hp
    generalize xs.length = len at *
    generalize VL (pL xs) = V at *
    go_enter Tryz.func10, Tryz.ntmps10
    go_wp2_with fail
    refine HF.out.mono ?_
    rintro e w1 ⟨rfl, b1⟩
    have HN := Lib.hid (Blk.new w1 39 (VL z24))
    have HB := Lib.hid (b1.alloc b1.size (.cells (VL z24) 39))
    have hw1 := b1.size
    clear b1
    go_wp2_with (refine wpList_store_row rfl 39 _ _ rfl w1.heap.size V rfl rfl 39 (VL z24) HN.out HI.out (by rw [HSZ.out]; rfl) HALL.out ?_)
    go_ret
    exact ⟨rfl, bel_row HB.out hw1⟩
  · have HTU := Lib.hid (fun W h => keepsCode_calls xs hp W h)
    rw [hp] at HF
    rw [pL_yes hp] at HF HI HSZ HALL
    have hT0 := hT.lt
    clear ha hx hp
    generalize xs.length = len at *
    generalize VL xs = V at *
    generalize keepsB xs = b at *
    go_enter Tryz.func10, Tryz.ntmps10
    go_wp2_with fail
    refine HF.out.mono ?_
    rintro e w1 ⟨rfl, b1⟩
    have HN := Lib.hid (Blk.new w1 39 (VL z24))
    have HB := Lib.hid (bel_row (T := V) (b1.alloc b1.size (.cells (VL z24) 39)) b1.size)
    have HN2 := Lib.hid (show ((w1.alloc (.cells (VL z24) 39)).setRow w1.heap.size V).heap[w1.heap.size]? = some (.cells V 39 (0, 0)) from setRow_heap _ _ _ _ _ _ HN.out)
    have HT2 := Lib.hid (hT.below HB.out hT0)
    clear b1
    go_wp2_with (first
      | (refine wpList_store_row rfl 39 _ _ rfl w1.heap.size V rfl rfl 39 (VL z24) HN.out HI.out (by rw [HSZ.out]; rfl) HALL.out ?_)
      | (refine wpList_load_row_g (by kernel_rfl) 39 _ rfl w1.heap.size rfl 39 V (0, 0) _ _ HN2.out Tryz.underlying39 HI.out ?_))
    refine (HTU.out _ HT2.out).mono ?_
    rintro e w2 ⟨rfl, b2⟩
    have HB2 := Lib.hid (HB.out.trans (b2.mono HB.out.size))
    clear b2
    go_wp2_with fail
    go_ret
    exact ⟨rfl, HB2.out⟩
end Go.Proofs.YtiodikflmijhkaaGreatDoor
end

section
namespace Go.Proofs.YtiodikflmijhkaaGreatDoor
open Go.RowKit
set_option linter.unusedVariables false

theorem pair_small {xs : List Int} (h : xs.length < 2) : xs.Pairwise (· ≤ ·) := by
  match xs, h with
  | [], _ => exact .nil
  | [x], _ => simp
theorem Rds.takeN {w : World} {B : Nat} {b o h : Nat} {xs : List Int} (hb : b < B) (hc : ∀ j, j < xs.length → w.cell? ⟨b, o + j, none⟩ = some (.int .i64 (xs.getD j 0))) (hh : h ≤ xs.length) : Rds w B .i64 (some ⟨b, o, none⟩) (xs.take h) := by
  refine .inr ⟨b, o, rfl, hb, fun j hj => ?_⟩
  have hj' : j < h := by simp at hj; omega
  rw [hc j (by omega)]
  simp [List.getD_eq_getElem?_getD, hj']
theorem Rds.dropN {w : World} {B : Nat} {b o h : Nat} {xs : List Int} (hb : b < B) (hc : ∀ j, j < xs.length → w.cell? ⟨b, o + j, none⟩ = some (.int .i64 (xs.getD j 0))) : Rds w B .i64 (some ⟨b, o + h, none⟩) (xs.drop h) := by
  refine .inr ⟨b, o + h, rfl, hb, fun j hj => ?_⟩
  have hj' : h + j < xs.length := by simp at hj; omega
  have e : o + h + j = o + (h + j) := by omega
  rw [e, hc (h + j) hj']
  simp [List.getD_eq_getElem?_getD]
theorem own_pushed {w : World} {B : Nat} {v : Value} {zs : List Int} {x : Int} (h : Own w B v (zs ++ [x])) : ∃ g c, v = .slice (some ⟨g, 0, none⟩) (zs ++ [x]).length c := by
  rcases h.form with ⟨_, h1⟩ | ⟨g, c, h1, _⟩
  · simp at h1
  · exact ⟨g, c, h1⟩
theorem own_caps {w : World} {B : Nat} {A : Option Addr} {n c : Nat} {xs : List Int} (h : Own w B (.slice A n c) xs) : xs.length ≤ c ∧ c ≤ maxLen := by
  rcases h.form with ⟨h1, h0⟩ | ⟨g, cap, h1, _, _, h2, h3⟩
  · simp only [Value.slice.injEq] at h1
    obtain ⟨_, _, rfl⟩ := h1
    rw [h0]
    exact ⟨Nat.le_refl _, by unfold maxLen; omega⟩
  · simp only [Value.slice.injEq] at h1
    obtain ⟨_, _, rfl⟩ := h1
    exact ⟨h2, h3⟩
theorem own_lo {w : World} {B g : Nat} {n c : Nat} {xs : List Int} (h : Own w B (.slice (some ⟨g, 0, none⟩) n c) xs) : B ≤ g := by
  rcases h.form with ⟨h1, _⟩ | ⟨g', cap, h1, h2, _⟩
  · simp at h1
  · simp only [Value.slice.injEq, Option.some.injEq, Addr.mk.injEq] at h1
    obtain ⟨⟨rfl, _⟩, _⟩ := h1
    exact h2
theorem own_lo' {w : World} {B : Nat} {A : Option Addr} {n c : Nat} {xs : List Int} (h : Own w B (.slice A n c) xs) : ∀ ad, A = some ad → B ≤ ad.block := by
  rintro ad rfl
  rcases h.form with ⟨h1, _⟩ | ⟨g', cap, h1, h2, _⟩
  · simp at h1
  · simp only [Value.slice.injEq, Option.some.injEq] at h1
    obtain ⟨rfl, _⟩ := h1
    exact h2
theorem below_drewN_trans {A C D : World} {B n : Nat} (h : Below B A C) (k : Below B (C.drewN n) D) : Below B A D := (below_drewN h n).trans k
set_option maxRecDepth 100000 in
set_option maxHeartbeats 4000000 in
theorem l4Sort_calls : ∀ (n : Nat) (xs : List Int) (A : Option Addr) (c : Nat) (w : World), xs.length = n → n ≤ 4096 → n ≤ c → c ≤ maxLen → Rds w w.heap.size .i64 A xs →
    Calls Tryz.prog 147 #[.slice A n c] w fun e w' => ∃ A' c' ys, e = .returned (.slice A' n c') ∧ ys.Perm xs ∧ ys.Pairwise (· ≤ ·) ∧ n ≤ c' ∧ c' ≤ maxLen ∧ Rds w' w'.heap.size .i64 A' ys ∧ (∀ ad, A' = some ad → A = some ad ∨ w.heap.size ≤ ad.block) ∧ Below w.heap.size w w' ∧ (2 ≤ n → Own w' w.heap.size (.slice A' n c') ys) := by
  intro n
  induction n using Nat.strongRecOn
  rename_i n ih
  intro xs A c w hn hN hc hcm hr
  by_cases h2 : n < 2
  · go_enter Tryz.func147, Tryz.ntmps147
    go_wp2_with fail
    go_ret
    exact ⟨A, c, xs, rfl, .refl _, pair_small (by omega), hc, hcm, hr, fun ad h => .inl h, Below.refl _ _, fun h => absurd h (by omega)⟩
  obtain ⟨b, o, rfl, hb, hcell⟩ : ∃ b o, A = some ⟨b, o, none⟩ ∧ b < w.heap.size ∧ ∀ j, j < xs.length → w.cell? ⟨b, o + j, none⟩ = some (.int .i64 (xs.getD j 0)) := by
    rcases hr with h | h
    · rw [h] at hn; simp at hn; omega
    · exact h
  obtain ⟨h, hh⟩ : ∃ h, h = n / 2 := ⟨_, rfl⟩
  have q1 := ih h (by omega) (xs.take h) (some ⟨b, o, none⟩) c w (by simp; omega) (by omega) (by omega) hcm (Rds.takeN hb hcell (by omega))
  have q2 := fun W (hW : Below w.heap.size w W) => ih (n - h) (by omega) (xs.drop h) (some ⟨b, o + h, none⟩) (c - h) W (by simp; omega) (by omega) (by omega) (by omega) (((Rds.dropN (h := h) hb hcell).below hW).more hW.size)
  have HQ1 := Lib.hid q1
  have HQ2 := Lib.hid q2
  have hq : (n : Int) / 2 = (h : Int) := by omega
  have hq0 : (0 : Int) ≤ (h : Int) := by omega
  have hn0 : (0 : Int) ≤ (n : Int) := by omega
  have hn1 : (n : Int) ≤ 4096 := by omega
  have hq1 : (h : Int) ≤ (n : Int) := by omega
  have hq2 : (n : Int) ≤ (c : Int) := by omega
  have hq3 : (h : Int) ≤ (c : Int) := by omega
  have hne : ¬ c = h := by omega
  have h2' : ¬ (n : Int) < 2 := by omega
  have hh1 : 2 * h ≤ n := by omega
  have hh2 : n ≤ 2 * h + 1 := by omega
  clear ih q1 q2 hcell hr hh
  go_enter Tryz.func147, Tryz.ntmps147
  go_wp2_with fail
  refine HQ1.out.mono ?_
  rintro e w1 ⟨A1, c1, ys1, rfl, p1, s1, l1, m1, r1, _, b1, _⟩
  go_wp2_with fail
  refine (HQ2.out _ b1).mono ?_
  rintro e w2 ⟨A2, c2, ys2, rfl, p2, s2, l2, m2, r2, _, b2, _⟩
  have HB := Lib.hid (b1.trans (b2.mono b1.size))
  have R1 := Lib.hid ((r1.below b2).more b2.size)
  have R2 := Lib.hid r2
  have hl1 : ys1.length = h := by rw [p1.length_eq]; simp; omega
  have hl2 : ys2.length = n - h := by rw [p2.length_eq]; simp; omega
  have hPM : (mrg ys1 ys2).Perm xs := (mrg_perm ys1 ys2).trans ((p1.append p2).trans (by rw [List.take_append_drop]))
  have HPM := Lib.hid hPM
  have HPS := Lib.hid (mrg_pair s1 s2)
  have HLM := Lib.hid (mrg_len ys1 ys2)
  have HO := Lib.hid (own_empty w2 w2.heap.size (Nat.le_refl _))
  clear b1 b2 r1 r2 p1 p2 s1 s2 hPM
  go_wp2_with fail
  go_loopw [5, 6, 7] (fun v i k wr => ∃ (p q : Nat) (zs : List Int), p ≤ h ∧ q ≤ n - h ∧ i = .int .i64 p ∧ k = .int .i64 q ∧ zs.length = p + q ∧ (∃ g cc, v = .slice (some ⟨g, 0, none⟩) zs.length cc) ∧ Hid (zs ++ mrg (ys1.drop p) (ys2.drop q) = mrg ys1 ys2) ∧ Hid (Own wr w2.heap.size v zs) ∧ Hid (Below w2.heap.size w2 wr)) (fun _ i k _ => n - ((intOf i).toNat + (intOf k).toNat))
  case atStart => exact ⟨0, 0, [], by omega, by omega, rfl, rfl, rfl, ⟨_, _, rfl⟩, Lib.hid (by simp), HO, Lib.hid ((Below.refl _ _).alloc (Nat.le_refl _) _)⟩
  case round =>
    obtain ⟨p, q, zs, hp, hqq, rfl, rfl, hzl, ⟨g, cc, rfl⟩, hM, ho, hbl⟩ := hrel
    have hzle : zs.length ≤ 1048576 := by omega
    have HZ := Lib.hid hzl
    clear hzl
    by_cases hA : p < h
    · obtain ⟨b1, o1, rfl, hb1, hc1⟩ := (R1.out.below hbl.out).at_ (j := p) (by omega)
      by_cases hB : q < n - h
      · obtain ⟨b2, o2, rfl, hb2, hc2⟩ := (R2.out.below hbl.out).at_ (j := q) (by omega)
        have hqm : ((q : Int) == ((n - h : Nat) : Int)) = false := by simp; omega
        by_cases hle : ys1.getD p 0 ≤ ys2.getD q 0
        · have HN := Lib.hid (mrg_takeA (by omega) (by omega) (.inr ⟨by omega, hle⟩) hM.out)
          generalize ys1.getD p 0 = x at *
          generalize ys2.getD q 0 = y at *
          go_wp2_with fail
          go_quiet (fail)
          go_wp2_with (at_builtin; refine wpList_push rfl _ _ rfl _ w2.heap.size _ _ _ _ rfl rfl (by exact ho.out) (by omega) (by exact hbl.out.size) ?_; intro v2 w3 ho2 hb2 _)
          go_roundw
          case rel => exact ⟨p + 1, q, zs ++ [x], by omega, by omega, by go_num, rfl, by have := HZ.out; simp; omega, own_pushed ho2, HN, Lib.hid ho2, Lib.hid (below_drewN_trans hbl.out hb2)⟩
          case measure => simp [intOf]; omega
        · have HN := Lib.hid (mrg_takeB (by omega) (by omega) (.inr ⟨by omega, hle⟩) hM.out)
          generalize ys1.getD p 0 = x at *
          generalize ys2.getD q 0 = y at *
          go_wp2_with fail
          go_quiet (fail)
          go_wp2_with (at_builtin; refine wpList_push rfl _ _ rfl _ w2.heap.size _ _ _ _ rfl rfl (by exact ho.out) (by omega) (by exact hbl.out.size) ?_; intro v2 w3 ho2 hb2 _)
          go_roundw
          case rel => exact ⟨p, q + 1, zs ++ [y], by omega, by omega, rfl, by go_num, by have := HZ.out; simp; omega, own_pushed ho2, HN, Lib.hid ho2, Lib.hid (below_drewN_trans hbl.out hb2)⟩
          case measure => simp [intOf]; omega
      · obtain rfl : q = n - h := by omega
        have HN := Lib.hid (mrg_takeA (by omega) (by omega) (.inl hl2.symm) hM.out)
        generalize ys1.getD p 0 = x at *
        go_wp2_with fail
        go_quiet (fail)
        go_wp2_with (at_builtin; refine wpList_push rfl _ _ rfl _ w2.heap.size _ _ _ _ rfl rfl (by exact ho.out) (by omega) (by exact hbl.out.size) ?_; intro v2 w3 ho2 hb2 _)
        go_roundw
        case rel => exact ⟨p + 1, n - h, zs ++ [x], by omega, by omega, by go_num, rfl, by have := HZ.out; simp; omega, own_pushed ho2, HN, Lib.hid ho2, Lib.hid (below_drewN_trans hbl.out hb2)⟩
        case measure => simp [intOf]; omega
    · obtain rfl : h = p := by omega
      by_cases hB : q < n - h
      · obtain ⟨b2, o2, rfl, hb2, hc2⟩ := (R2.out.below hbl.out).at_ (j := q) (by omega)
        have hqm : ((q : Int) == ((n - h : Nat) : Int)) = false := by simp; omega
        have HN := Lib.hid (mrg_takeB (by omega) (by omega) (.inl hl1.symm) hM.out)
        generalize ys2.getD q 0 = y at *
        go_wp2_with fail
        go_quiet (fail)
        go_wp2_with (at_builtin; refine wpList_push rfl _ _ rfl _ w2.heap.size _ _ _ _ rfl rfl (by exact ho.out) (by omega) (by exact hbl.out.size) ?_; intro v2 w3 ho2 hb2 _)
        go_roundw
        case rel => exact ⟨h, q + 1, zs ++ [y], by omega, by omega, rfl, by go_num, by have := HZ.out; simp; omega, own_pushed ho2, HN, Lib.hid ho2, Lib.hid (below_drewN_trans hbl.out hb2)⟩
        case measure => simp [intOf]; omega
      · obtain rfl : q = n - h := by omega
        have hzm : zs = mrg ys1 ys2 := by
          have := hM.out
          rw [List.drop_of_length_le (by omega), List.drop_of_length_le (by omega), nil_mrg, List.append_nil] at this
          exact this
        obtain ⟨q1, q2⟩ := own_caps ho.out
        have HZM := Lib.hid hzm
        clear hzm
        go_wp2_with fail
        have hzn : zs.length = n := by have := HZ.out; omega
        have HE := Lib.hid (show Value.slice (some ⟨g, 0, none⟩) zs.length cc = .slice (some ⟨g, 0, none⟩) n cc by rw [hzn])
        clear hzn
        go_ret
        exact ⟨some ⟨g, 0, none⟩, cc, zs, congrArg Ending.returned HE.out, by rw [HZM.out]; exact HPM.out, by rw [HZM.out]; exact HPS.out, by have := HZ.out; omega, q2, ho.out.rds, (fun ad h => by cases h; exact .inr (Nat.le_trans HB.out.size (own_lo ho.out))), HB.out.trans (hbl.out.mono HB.out.size), fun _ => by rw [← HE.out]; exact ho.out.weak HB.out.size⟩
end Go.Proofs.YtiodikflmijhkaaGreatDoor
end

section
namespace Go.Proofs.YtiodikflmijhkaaGreatDoor
open Go.RowKit
set_option linter.unusedVariables false
attribute [local irreducible] cN syn

def okTo (xs : List Int) : Nat → Bool
  | 0 => true
  | k + 1 => okTo xs k && okN (atL xs k)
theorem okTo_iff (xs : List Int) : ∀ k, okTo xs k = true ↔ ∀ p, p < k → okN (atL xs p) = true
  | 0 => by simp [okTo]
  | k + 1 => by
    rw [okTo, Bool.and_eq_true, okTo_iff xs k]
    constructor
    · rintro ⟨h1, h2⟩ p hp
      by_cases e : p = k
      · rw [e]; exact h2
      · exact h1 p (by omega)
    · exact fun h => ⟨fun p hp => h p (by omega), h k (by omega)⟩
theorem okTo_end (xs : List Int) (h : okTo xs xs.length = true) : vecB xs = decide (xs.length = 24) := by
  by_cases hl : xs.length = 24
  · rw [decide_eq_true hl]
    refine vecB_of hl fun p hp => ?_
    have := (okTo_iff xs _).1 h p (by omega)
    simpa [okN] using this
  · simp [vecB, hl]
theorem okTo_all (xs : List Int) (h : xs.length = 24) : okTo xs 24 = vecB xs := by
  rw [Bool.eq_iff_iff, okTo_iff]
  constructor
  · exact fun k => vecB_of h fun p hp => by have := k p hp; simpa [okN] using this
  · exact fun k p hp => by have := vecB_rng k p; simpa [okN] using this
theorem okTo_no (xs : List Int) (k : Nat) (hn : okN (atL xs k) = false) : vecB xs = false := by
  cases e : vecB xs
  · rfl
  · have := vecB_rng e k
    rw [show okN (atL xs k) = true by simpa [okN] using this] at hn
    cases hn
set_option maxHeartbeats 400000 in
theorem sVectorValid_calls (A : Option Addr) (c : Nat) (xs : List Int) (w : World) (ha : Rds w w.heap.size .i64 A xs) (hx : xs.length ≤ maxLen) :
    Calls Tryz.prog 19 #[.slice A xs.length c] w fun e w' => e = .returned (.bool (vecB xs)) ∧ w = w' := by
  unfold maxLen at hx
  have HNO := Lib.hid (okTo_no xs)
  have HEND := Lib.hid (okTo_end xs)
  go_enter Tryz.func19, Tryz.ntmps19
  go_wp2_with fail
  go_loopw [3] (fun i wr => ∃ k : Nat, k ≤ xs.length ∧ i = .int .i64 k ∧ Hid (okTo xs k = true) ∧ w = wr) (fun i _ => xs.length - (intOf i).toNat)
  case atStart => exact ⟨0, Nat.zero_le _, rfl, Lib.hid rfl, rfl⟩
  case round =>
    obtain ⟨k, hk, rfl, ho, hww⟩ := hrel
    subst hww
    by_cases hlt : k < xs.length
    · obtain ⟨b1, o1, rfl, _, c1⟩ := ha.at_ (j := k) hlt
      replace c1 : w.cell? ⟨b1, o1 + k, none⟩ = some (.int .i64 (atL xs k)) := c1
      have hkl : (k : Int) < (xs.length : Int) := by omega
      have HN := Lib.hid (HNO.out k)
      have HS := Lib.hid (show okN (atL xs k) = true → okTo xs (k + 1) = true by intro h; rw [okTo, ho.out, h]; rfl)
      generalize atL xs k = x at *
      by_cases hp : -100000 ≤ x ∧ x ≤ 100000
      · obtain ⟨hp0, hp1⟩ := hp
        have HS2 := Lib.hid (HS.out (by simp [okN]; omega))
        go_wp2_with (go_at_call 44; refine (l6In_ok _ _ _ _ (by omega) (by omega)).mono ?_; rintro e w' ⟨rfl, rfl⟩)
        go_roundw
        case rel => exact ⟨k + 1, by omega, by go_num, HS2, by first | exact rfl | trivial⟩
        case measure => simp [intOf]; omega
      · have hp' : x < -100000 ∨ 100000 < x := by omega
        have HN2 := Lib.hid (HN.out (by simp [okN]; omega))
        clear hp
        go_wp2_with (go_at_call 44; refine (l6In_no _ _ _ _ hp').mono ?_; rintro e w' ⟨rfl, rfl⟩)
        go_ret
        exact ⟨by rw [HN2.out]; rfl, rfl⟩
    · obtain rfl : k = xs.length := by omega
      have HE := Lib.hid (HEND.out ho.out)
      clear ho
      by_cases hl : xs.length = 24
      · have hl1 : ((xs.length : Int) == 24) = true := by simp [hl]
        have HE2 := Lib.hid (show vecB xs = true by rw [HE.out, decide_eq_true hl])
        clear hl
        go_wp2_with fail
        go_ret
        exact ⟨by rw [HE2.out]; rfl, rfl⟩
      · have hl1 : ((xs.length : Int) == 24) = false := by simp; omega
        have HE2 := Lib.hid (show vecB xs = false by rw [HE.out, decide_eq_false hl])
        clear hl
        go_wp2_with fail
        go_ret
        exact ⟨by rw [HE2.out]; rfl, rfl⟩
end Go.Proofs.YtiodikflmijhkaaGreatDoor
end
