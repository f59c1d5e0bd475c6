/- The walks of promises 80 and 81. -/
import Derived.Test.YtcfhfllcdliaoaaGreatDoorW91
import Derived.Deep.RegionHeld3
namespace Go.Proofs.YtcfhfllcdliaoaaGreatDoor
open Go.RowKit
set_option linter.unusedVariables false
set_option linter.unusedSimpArgs false
attribute [local irreducible] octS cN octF syn nearL farI

theorem out_split (r : Int × List UInt8) (X : List UInt8) : BA (outL (r.1, r.2 ++ X)) = BA ((r.2 ++ X) ++ lastW r.1) := rfl
theorem one_out (r : Int × List UInt8) (d : List UInt8) (hd : d.length = 28) : (BA (outL (r.1, r.2 ++ d))).extract r.2.length (r.2.length + 28) = BA d := by
  have h := ext_list (BA (outL (r.1, r.2 ++ d))) r.2.length (r.2.length + 28)
  have h2 : (BA (outL (r.1, r.2 ++ d))).extract r.2.length (r.2.length + 28) = BA (((BA (outL (r.1, r.2 ++ d))).extract r.2.length (r.2.length + 28)).data.toList) := rfl
  rw [h2, h]
  show BA ((((r.2 ++ d) ++ lastW r.1).drop r.2.length).take (r.2.length + 28 - r.2.length)) = _
  rw [List.append_assoc, List.drop_left, Nat.add_sub_cancel_left, List.take_left' hd]
theorem lastW_pos (n : Int) : 1 ≤ (lastW n).length := by
  unfold lastW
  rw [List.length_append]
  show 1 ≤ 5 + _
  omega
theorem out_size (r : Int × List UInt8) : (BA (outL r)).size = r.2.length + (lastW r.1).length := by show (outL r).length = _; unfold outL; rw [List.length_append]
set_option maxHeartbeats 4000000 in
theorem walk_FnExecuteWhat (a0 : Option Addr) (len0 cap0 : Nat) (z0 : List Int) (w : World) (w0 : IsRow .u8 w a0 len0 cap0 z0) (hT : TabX w) :
    Calls Tryz.prog 4 #[.slice a0 len0 cap0] w fun e w' => e = .returned (.bool true) ∧ Below w.heap.size w w' := by
  obtain ⟨bs, rfl, hr, hc, hm, hv⟩ := w0.bytes
  have hm' := hm
  unfold maxLen at hm'
  by_cases hbig : 1048576 < bs.length
  · go_enter Tryz.func4, Tryz.ntmps4
    go_wp2_with fail
    go_ret
    exact ⟨rfl, Below.refl _ _⟩
  · have hbig' : bs.length ≤ 1048576 := by omega
    have HT := Lib.hid hT
    have HD := Lib.hid (DrawExecute_calls _ _ bs _ hr hc hm hv)
    clear hbig hr hc hm hv hm' w0 hT
    go_enter Tryz.func4, Tryz.ntmps4
    go_wp2_with fail
    refine HD.out.mono ?_
    rintro e w1 ⟨s, rfl, hs, b1⟩
    have hsm : s.size ≤ maxLen := by unfold maxLen; omega
    have T1 := Lib.hid (HT.out.keep b1)
    have B1 := Lib.hid b1
    have HI := Lib.hid (iExecute_calls s w1 hsm T1.out)
    have HS := Lib.hid (fun W => sExecute_calls s W hsm)
    clear b1 HD hsm
    have HC := Lib.hid (fun W => complete_calls s W (by omega))
    have hcs := compS_size s
    have HEnd := Lib.hid (compS_ends s)
    generalize compS s = c at *
    generalize execA s = R at *
    go_wp2_with fail
    refine HI.out.mono ?_
    rintro e w2 ⟨rfl, b⟩
    have B2 := Lib.hid (B1.out.trans (b.mono B1.out.size))
    have T2 := Lib.hid (T1.out.keep b)
    clear b
    go_wp2_with fail
    refine (HS.out _).mono ?_
    rintro e w3 ⟨rfl, b⟩
    have B3 := Lib.hid (B2.out.trans (b.mono B2.out.size))
    have T3 := Lib.hid (T2.out.keep b)
    clear b
    go_wp2_with fail
    refine (HC.out _).mono ?_
    rintro e w' ⟨rfl, rfl⟩
    clear HI HS HC
    by_cases h590 : 590 < c.size
    · have h1 : (590 : Int) < (c.size : Int) := by omega
      clear h590
      go_wp2_with fail
      go_ret
      exact ⟨rfl, B3.out⟩
    · have h1 : ¬ (590 : Int) < (c.size : Int) := by omega
      have hc590 : c.size ≤ 590 := by omega
      have HA := Lib.hid (iExecute_calls c w3 (by unfold maxLen; omega) T3.out)
      rw [execA_out (by omega)] at HA
      have hlen := outL_size c (by omega)
      have hsz : (c ++ BA [122, 122, 122, 10, 115, 101, 116, 32, 120, 10]).size ≤ 600 := by rw [sizeS]; show c.size + 10 ≤ 600; omega
      have HX := Lib.hid (fun W h => iExecute_calls (c ++ BA [122, 122, 122, 10, 115, 101, 116, 32, 120, 10]) W (by unfold maxLen; omega) h)
      rw [execA_out hsz, execR_app HEnd.out, exec_what] at HX
      have hl := lastS_exec c
      have ht := take_out (execR c)
      have hos := out_size (execR c)
      have hadd1 : ∀ W : World, (Op.stringOp .add c (⟨#[122, 122, 122, 10, 115, 101, 116, 32, 120, 10]⟩ : ByteArray)).run Tryz.prog W = .ok (.string (c ++ BA [122, 122, 122, 10, 115, 101, 116, 32, 120, 10])) W := fun W => addS c _ (by show c.size + 10 ≤ _; omega) W
      generalize execR c = r at *
      have hr2 : r.2.length + (lastW r.1).length ≤ 700000 := by unfold outL at hlen; rw [List.length_append] at hlen; exact hlen
      have hadd2 : ∀ W : World, (Op.stringOp .add (BA r.2) (⟨#[119, 104, 97, 116, 10, 110, 111, 10]⟩ : ByteArray)).run Tryz.prog W = .ok (.string (BA (r.2 ++ [119, 104, 97, 116, 10, 110, 111, 10]))) W := fun W => ba_add r.2 [119, 104, 97, 116, 10, 110, 111, 10] (by simp; omega) W
      have hadd3 : ∀ W : World, (Op.stringOp .add (BA (r.2 ++ [119, 104, 97, 116, 10, 110, 111, 10])) (BA (lastW r.1))).run Tryz.prog W = .ok (.string (BA (outL (r.1, r.2 ++ [119, 104, 97, 116, 10, 110, 111, 10])))) W := fun W => ba_add _ _ (by simp; omega) W
      have HLa := Lib.hid (fun W => lastLine_calls (BA (outL r)) W (by rw [hos]; omega) (by rw [hos]; have := lastW_pos r.1; omega))
      rw [hl] at HLa
      have hls : (BA (lastW r.1)).size = (lastW r.1).length := rfl
      obtain ⟨n, hn⟩ : ∃ n, n = r.2.length := ⟨_, rfl⟩
      rw [← hn] at ht hos hr2
      have v1 : IntKind.i64.wrap (((BA (outL r)).size : Int) - ((BA (lastW r.1)).size : Int)) = (n : Int) := by rw [IntKind.wrap_i64, hos, hls]; omega
      have v2 : (0 : Int) ≤ (n : Int) := by omega
      have v3 : (n : Int) ≤ ((BA (outL r)).size : Int) := by rw [hos]; omega
      have v4 : n ≤ (BA (outL r)).size := by omega
      clear hl hos hls hr2 hlen hsz hn h590 hcs hs hc590
      generalize BA (outL (r.1, r.2 ++ [119, 104, 97, 116, 10, 110, 111, 10])) = X at *
      generalize BA (r.2 ++ [119, 104, 97, 116, 10, 110, 111, 10]) = t2 at *
      generalize BA (lastW r.1) = l at *
      generalize BA r.2 = t1 at *
      generalize BA (outL r) = a at *
      generalize c ++ BA [122, 122, 122, 10, 115, 101, 116, 32, 120, 10] = c2 at *
      go_wp2_with fail
      refine HA.out.mono ?_
      rintro e w4 ⟨rfl, b⟩
      have B4 := Lib.hid (B3.out.trans (b.mono B3.out.size))
      have T4 := Lib.hid (T3.out.keep b)
      clear b
      go_wp2_with fail
      refine wp_region_held_drew (S := fun _ => True) (by kernel_rfl) trivial (fun hd => ?_)
      refine wpAnyH_take (i := 0) (v := .string c) rfl (by kernel_rfl) (by kernel_rfl) (by kernel_rfl) (fun _ _ _ h => h) (Or.inl ⟨by kernel_rfl, fun w _ => by kernel_rfl⟩) trivial ?_
      change wpAnyH _ _ _ _ _ _ _ (Act.put _ (some 27) (.string c)) _
      simp only [Act.put, List.setIfInBounds_toArray, List.set_cons_zero, List.set_cons_succ]
      refine wpAnyH_take (i := 1) (v := .string c2) rfl (by kernel_rfl) (by kernel_rfl) (by kernel_rfl) (fun _ _ _ h => h) (Or.inl ⟨by kernel_rfl, fun w hS => by go_simp⟩) trivial ?_
      change wpAnyH _ _ _ _ _ _ _ (Act.put _ (some 28) (.string c2)) _
      simp only [Act.put, List.setIfInBounds_toArray, List.set_cons_zero, List.set_cons_succ]
      refine wpAnyH_take (i := 3) (v := .string a) rfl (by kernel_rfl) (by kernel_rfl) (by kernel_rfl) (fun _ _ _ h => h) (Or.inl ⟨by kernel_rfl, fun w _ => by kernel_rfl⟩) trivial ?_
      change wpAnyH _ _ _ _ _ _ _ (Act.put _ (some 30) (.string a)) _
      simp only [Act.put, List.setIfInBounds_toArray, List.set_cons_zero, List.set_cons_succ]
      refine wpAnyH_take (i := 4) (v := .string a) rfl (by kernel_rfl) (by kernel_rfl) (by kernel_rfl) (fun _ _ _ h => h) (Or.inl ⟨by kernel_rfl, fun w _ => by kernel_rfl⟩) trivial ?_
      change wpAnyH _ _ _ _ _ _ _ (Act.put _ (some 31) (.string a)) _
      simp only [Act.put, List.setIfInBounds_toArray, List.set_cons_zero, List.set_cons_succ]
      refine wpAnyH_take (i := 5) (v := .int .i64 (a.size : Int)) rfl (by kernel_rfl) (by kernel_rfl) (by kernel_rfl) (fun _ _ _ h => h) (Or.inl ⟨by kernel_rfl, fun w hS => by go_simp⟩) trivial ?_
      change wpAnyH _ _ _ _ _ _ _ (Act.put _ (some 32) (.int .i64 (a.size : Int))) _
      simp only [Act.put, List.setIfInBounds_toArray, List.set_cons_zero, List.set_cons_succ]
      refine wpAnyH_take (i := 6) (v := .string a) rfl (by kernel_rfl) (by kernel_rfl) (by kernel_rfl) (fun _ _ _ h => h) (Or.inl ⟨by kernel_rfl, fun w _ => by kernel_rfl⟩) trivial ?_
      change wpAnyH _ _ _ _ _ _ _ (Act.put _ (some 33) (.string a)) _
      simp only [Act.put, List.setIfInBounds_toArray, List.set_cons_zero, List.set_cons_succ]
      refine wpAnyH_take (i := 12) (v := .string a) rfl (by kernel_rfl) (by kernel_rfl) (by kernel_rfl) (fun _ _ _ h => h) (Or.inl ⟨by kernel_rfl, fun w _ => by kernel_rfl⟩) trivial ?_
      change wpAnyH _ _ _ _ _ _ _ (Act.put _ (some 39) (.string a)) _
      simp only [Act.put, List.setIfInBounds_toArray, List.set_cons_zero, List.set_cons_succ]
      refine wpAnyH_ready (rs := [2]) (by kernel_rfl) (by simp) ?_
      refine AllReadyH.cons rfl (fun K hK => ?_) AllReadyH.nil
      go_simp
      go_at_call 11
      refine (HX.out _ (T4.out.keep (Below.refl _ _).drew)).mono ?_
      rintro e w5 ⟨rfl, b5⟩
      refine hK.out _ _ trivial (fun _ => ?_)
      refine wpAnyH_ready (rs := [7]) (by kernel_rfl) (by simp) ?_
      refine AllReadyH.cons rfl (fun K hK => ?_) AllReadyH.nil
      go_simp
      go_at_call 14
      refine (HLa.out _).mono ?_
      rintro e w6 ⟨rfl, rfl⟩
      refine hK.out _ _ trivial (fun _ => ?_)
      refine wpAnyH_take (i := 8) (v := .int .i64 (l.size : Int)) rfl (by kernel_rfl) (by kernel_rfl) (by kernel_rfl) (fun _ _ _ h => h) (Or.inl ⟨by kernel_rfl, fun w hS => by go_simp⟩) trivial ?_
      change wpAnyH _ _ _ _ _ _ _ (Act.put _ (some 35) (.int .i64 (l.size : Int))) _
      simp only [Act.put, List.setIfInBounds_toArray, List.set_cons_zero, List.set_cons_succ]
      refine wpAnyH_take (i := 9) (v := .int .i64 (n : Int)) rfl (by kernel_rfl) (by kernel_rfl) (by kernel_rfl) (fun _ _ _ h => h) (Or.inl ⟨by kernel_rfl, fun w hS => by go_simp⟩) trivial ?_
      change wpAnyH _ _ _ _ _ _ _ (Act.put _ (some 36) (.int .i64 (n : Int))) _
      simp only [Act.put, List.setIfInBounds_toArray, List.set_cons_zero, List.set_cons_succ]
      refine wpAnyH_take (i := 10) (v := .string t1) rfl (by kernel_rfl) (by kernel_rfl) (by kernel_rfl) (fun _ _ _ h => h) (Or.inl ⟨by kernel_rfl, fun w hS => by go_simp⟩) trivial ?_
      change wpAnyH _ _ _ _ _ _ _ (Act.put _ (some 37) (.string t1)) _
      simp only [Act.put, List.setIfInBounds_toArray, List.set_cons_zero, List.set_cons_succ]
      refine wpAnyH_take (i := 11) (v := .string t2) rfl (by kernel_rfl) (by kernel_rfl) (by kernel_rfl) (fun _ _ _ h => h) (Or.inl ⟨by kernel_rfl, fun w hS => by go_simp⟩) trivial ?_
      change wpAnyH _ _ _ _ _ _ _ (Act.put _ (some 38) (.string t2)) _
      simp only [Act.put, List.setIfInBounds_toArray, List.set_cons_zero, List.set_cons_succ]
      refine wpAnyH_ready (rs := [13]) (by kernel_rfl) (by simp) ?_
      refine AllReadyH.cons rfl (fun K hK => ?_) AllReadyH.nil
      go_simp
      go_at_call 14
      refine (HLa.out _).mono ?_
      rintro e w6 ⟨rfl, rfl⟩
      refine hK.out _ _ trivial (fun _ => ?_)
      refine wpAnyH_take (i := 14) (v := .string X) rfl (by kernel_rfl) (by kernel_rfl) (by kernel_rfl) (fun _ _ _ h => h) (Or.inl ⟨by kernel_rfl, fun w hS => by go_simp⟩) trivial ?_
      change wpAnyH _ _ _ _ _ _ _ (Act.put _ (some 41) (.string X)) _
      simp only [Act.put, List.setIfInBounds_toArray, List.set_cons_zero, List.set_cons_succ]
      refine wpAnyH_take (i := 15) (v := .bool true) rfl (by kernel_rfl) (by kernel_rfl) (by kernel_rfl) (fun _ _ _ h => h) (Or.inl ⟨by kernel_rfl, fun w hS => by go_simp⟩) trivial ?_
      change wpAnyH _ _ _ _ _ _ _ (Act.put _ (some 42) (.bool true)) _
      simp only [Act.put, List.setIfInBounds_toArray, List.set_cons_zero, List.set_cons_succ]
      refine wpAnyH_take (i := 16) (v := .bool true) rfl (by kernel_rfl) (by kernel_rfl) (by kernel_rfl) (fun _ _ _ h => h) (Or.inl ⟨by kernel_rfl, fun w _ => by kernel_rfl⟩) trivial ?_
      change wpAnyH _ _ _ _ _ _ _ (Act.put _ (some 2) (.bool true)) _
      simp only [Act.put, List.setIfInBounds_toArray, List.set_cons_zero, List.set_cons_succ]
      refine wpAnyH_done (by kernel_rfl) ?_ _
      go_wp2_with fail
      go_ret
      exact ⟨rfl, B4.out.trans (((Below.refl _ _).drew.trans b5).mono B4.out.size)⟩
set_option maxHeartbeats 4000000 in
theorem walk_FnExecuteTwice (a0 : Option Addr) (len0 cap0 : Nat) (z0 : List Int) (w : World) (w0 : IsRow .u8 w a0 len0 cap0 z0) (hT : TabX w) :
    Calls Tryz.prog 5 #[.slice a0 len0 cap0] w fun e w' => e = .returned (.bool true) ∧ Below w.heap.size w w' := by
  obtain ⟨bs, rfl, hr, hc, hm, hv⟩ := w0.bytes
  have hm' := hm
  unfold maxLen at hm'
  by_cases hbig : 1048576 < bs.length
  · go_enter Tryz.func5, Tryz.ntmps5
    go_wp2_with fail
    go_ret
    exact ⟨rfl, Below.refl _ _⟩
  · have hbig' : bs.length ≤ 1048576 := by omega
    have HT := Lib.hid hT
    have HD := Lib.hid (DrawExecute_calls _ _ bs _ hr hc hm hv)
    clear hbig hr hc hm hv hm' w0 hT
    go_enter Tryz.func5, Tryz.ntmps5
    go_wp2_with fail
    refine HD.out.mono ?_
    rintro e w1 ⟨s, rfl, hs, b1⟩
    have hsm : s.size ≤ maxLen := by unfold maxLen; omega
    have T1 := Lib.hid (HT.out.keep b1)
    have B1 := Lib.hid b1
    have HI := Lib.hid (iExecute_calls s w1 hsm T1.out)
    have HS := Lib.hid (fun W => sExecute_calls s W hsm)
    clear b1 HD hsm
    have HC := Lib.hid (fun W => complete_calls s W (by omega))
    have hcs := compS_size s
    have HEnd := Lib.hid (compS_ends s)
    generalize compS s = c at *
    generalize execA s = R at *
    go_wp2_with fail
    refine HI.out.mono ?_
    rintro e w2 ⟨rfl, b⟩
    have B2 := Lib.hid (B1.out.trans (b.mono B1.out.size))
    have T2 := Lib.hid (T1.out.keep b)
    clear b
    go_wp2_with fail
    refine (HS.out _).mono ?_
    rintro e w3 ⟨rfl, b⟩
    have B3 := Lib.hid (B2.out.trans (b.mono B2.out.size))
    have T3 := Lib.hid (T2.out.keep b)
    clear b
    go_wp2_with fail
    refine (HC.out _).mono ?_
    rintro e w' ⟨rfl, rfl⟩
    clear HI HS HC
    by_cases h590 : 590 < c.size
    · have h1 : (590 : Int) < (c.size : Int) := by omega
      clear h590
      go_wp2_with fail
      go_ret
      exact ⟨rfl, B3.out⟩
    · have h1 : ¬ (590 : Int) < (c.size : Int) := by omega
      have hc590 : c.size ≤ 590 := by omega
      have HA := Lib.hid (iExecute_calls c w3 (by unfold maxLen; omega) T3.out)
      rw [execA_out (by omega)] at HA
      have hlen := outL_size c (by omega)
      have hsz : (c ++ BA [115, 104, 111, 119, 10]).size ≤ 600 := by rw [sizeS]; show c.size + 5 ≤ 600; omega
      have hsz2 : (c ++ BA [115, 104, 111, 119, 10, 115, 104, 111, 119, 10]).size ≤ 600 := by rw [sizeS]; show c.size + 10 ≤ 600; omega
      have HX := Lib.hid (fun W h => iExecute_calls (c ++ BA [115, 104, 111, 119, 10]) W (by unfold maxLen; omega) h)
      rw [execA_out hsz, execR_app HEnd.out, exec_show] at HX
      have HY := Lib.hid (fun W h => iExecute_calls (c ++ BA [115, 104, 111, 119, 10, 115, 104, 111, 119, 10]) W (by unfold maxLen; omega) h)
      rw [execA_out hsz2, execR_app HEnd.out, exec_show2] at HY
      have hl := lastS_exec c
      have ht := take_out (execR c)
      have hos := out_size (execR c)
      have hadd1 : ∀ W : World, (Op.stringOp .add c (⟨#[115, 104, 111, 119, 10]⟩ : ByteArray)).run Tryz.prog W = .ok (.string (c ++ BA [115, 104, 111, 119, 10])) W := fun W => addS c _ (by show c.size + 5 ≤ _; omega) W
      have hadd2 : ∀ W : World, (Op.stringOp .add c (⟨#[115, 104, 111, 119, 10, 115, 104, 111, 119, 10]⟩ : ByteArray)).run Tryz.prog W = .ok (.string (c ++ BA [115, 104, 111, 119, 10, 115, 104, 111, 119, 10])) W := fun W => addS c _ (by show c.size + 10 ≤ _; omega) W
      generalize execR c = r at *
      obtain ⟨d, hd⟩ : ∃ d, chrs r.1 27 ++ [10] = d := ⟨_, rfl⟩
      rw [hd] at HX HY
      have hdl : d.length = 28 := by rw [← hd, List.length_append, chrs_len]; rfl
      have hr2 : r.2.length + (lastW r.1).length ≤ 700000 := by unfold outL at hlen; rw [List.length_append] at hlen; exact hlen
      have hadd3 : ∀ W : World, (Op.stringOp .add (BA r.2) (BA d)).run Tryz.prog W = .ok (.string (BA (r.2 ++ d))) W := fun W => ba_add r.2 d (by omega) W
      have hadd4 : ∀ W : World, (Op.stringOp .add (BA (r.2 ++ d)) (BA d)).run Tryz.prog W = .ok (.string (BA (r.2 ++ (d ++ d)))) W := fun W => by rw [ba_add _ _ (by rw [List.length_append]; omega) W, List.append_assoc]
      have hadd5 : ∀ W : World, (Op.stringOp .add (BA (r.2 ++ (d ++ d))) (BA (lastW r.1))).run Tryz.prog W = .ok (.string (BA (outL (r.1, r.2 ++ (d ++ d))))) W := fun W => ba_add _ _ (by rw [List.length_append, List.length_append]; omega) W
      have HLa := Lib.hid (fun W => lastLine_calls (BA (outL r)) W (by rw [hos]; omega) (by rw [hos]; have := lastW_pos r.1; omega))
      rw [hl] at HLa
      have hls : (BA (lastW r.1)).size = (lastW r.1).length := rfl
      have hob : (BA (outL (r.1, r.2 ++ d))).size = r.2.length + 28 + (lastW r.1).length := by rw [out_size, List.length_append, hdl]
      have hone : (BA (outL (r.1, r.2 ++ d))).extract r.2.length (r.2.length + 28) = BA d := one_out r d hdl
      obtain ⟨n, hn⟩ : ∃ n, n = r.2.length := ⟨_, rfl⟩
      obtain ⟨n2, hn2⟩ : ∃ n2, n2 = r.2.length + 28 := ⟨_, rfl⟩
      rw [← hn2] at hone hob
      rw [← hn] at ht hos hr2 hone
      have v1 : IntKind.i64.wrap (((BA (outL r)).size : Int) - ((BA (lastW r.1)).size : Int)) = (n : Int) := by rw [IntKind.wrap_i64, hos, hls]; omega
      have v5 : wrap64 (((BA (outL r)).size : Int) - ((BA (lastW r.1)).size : Int)) = (n : Int) := by unfold wrap64; rw [hos, hls]; omega
      have v6 : wrap64 (((BA (outL (r.1, r.2 ++ d))).size : Int) - ((BA (lastW r.1)).size : Int)) = (n2 : Int) := by unfold wrap64; rw [hob, hls]; omega
      have v2 : (0 : Int) ≤ (n : Int) := by omega
      have v3 : (n : Int) ≤ ((BA (outL r)).size : Int) := by rw [hos]; omega
      have v7 : (n : Int) ≤ (n2 : Int) := by omega
      have v8 : (n2 : Int) ≤ ((BA (outL (r.1, r.2 ++ d))).size : Int) := by rw [hob]; omega
      have V1 := Lib.hid v1
      have V3 := Lib.hid v3
      have HT2 := Lib.hid ht
      clear hl hos hls hob hr2 hlen hsz hsz2 hn hn2 h590 hcs hs hc590 hd hdl v1 ht
      generalize BA (outL (r.1, r.2 ++ (d ++ d))) = Y at *
      generalize BA (r.2 ++ (d ++ d)) = t3 at *
      generalize BA (outL (r.1, r.2 ++ d)) = X at *
      generalize BA (r.2 ++ d) = t2 at *
      generalize BA (lastW r.1) = l at *
      generalize BA r.2 = t1 at *
      generalize BA (outL r) = a at *
      generalize BA d = o at *
      generalize c ++ BA [115, 104, 111, 119, 10] = c1 at *
      generalize c ++ BA [115, 104, 111, 119, 10, 115, 104, 111, 119, 10] = c2 at *
      go_wp2_with fail
      refine HA.out.mono ?_
      rintro e w4 ⟨rfl, b⟩
      have B4 := Lib.hid (B3.out.trans (b.mono B3.out.size))
      have T4 := Lib.hid (T3.out.keep b)
      clear b
      go_wp2_with fail
      refine (HLa.out _).mono ?_
      rintro e w' ⟨rfl, rfl⟩
      go_wp2_with fail
      refine (HX.out _ T4.out).mono ?_
      rintro e w5 ⟨rfl, b⟩
      have B5 := Lib.hid (B4.out.trans (b.mono B4.out.size))
      have T5 := Lib.hid (T4.out.keep b)
      clear b
      go_wp2_with fail
      have v1 := V1.out
      have ht := HT2.out
      clear v5 v6 hone
      refine wp_region_held_drew (S := fun _ => True) (by kernel_rfl) trivial (fun hd => ?_)
      refine wpAnyH_take (i := 0) (v := .string c) rfl (by kernel_rfl) (by kernel_rfl) (by kernel_rfl) (fun _ _ _ h => h) (Or.inl ⟨by kernel_rfl, fun w _ => by kernel_rfl⟩) trivial ?_
      change wpAnyH _ _ _ _ _ _ _ (Act.put _ (some 47) (.string c)) _
      simp only [Act.put, List.setIfInBounds_toArray, List.set_cons_zero, List.set_cons_succ]
      refine wpAnyH_take (i := 1) (v := .string c2) rfl (by kernel_rfl) (by kernel_rfl) (by kernel_rfl) (fun _ _ _ h => h) (Or.inl ⟨by kernel_rfl, fun w hS => by go_simp⟩) trivial ?_
      change wpAnyH _ _ _ _ _ _ _ (Act.put _ (some 48) (.string c2)) _
      simp only [Act.put, List.setIfInBounds_toArray, List.set_cons_zero, List.set_cons_succ]
      refine wpAnyH_take (i := 3) (v := .string a) rfl (by kernel_rfl) (by kernel_rfl) (by kernel_rfl) (fun _ _ _ h => h) (Or.inl ⟨by kernel_rfl, fun w _ => by kernel_rfl⟩) trivial ?_
      change wpAnyH _ _ _ _ _ _ _ (Act.put _ (some 50) (.string a)) _
      simp only [Act.put, List.setIfInBounds_toArray, List.set_cons_zero, List.set_cons_succ]
      refine wpAnyH_take (i := 4) (v := .string a) rfl (by kernel_rfl) (by kernel_rfl) (by kernel_rfl) (fun _ _ _ h => h) (Or.inl ⟨by kernel_rfl, fun w _ => by kernel_rfl⟩) trivial ?_
      change wpAnyH _ _ _ _ _ _ _ (Act.put _ (some 51) (.string a)) _
      simp only [Act.put, List.setIfInBounds_toArray, List.set_cons_zero, List.set_cons_succ]
      refine wpAnyH_take (i := 5) (v := .int .i64 (a.size : Int)) rfl (by kernel_rfl) (by kernel_rfl) (by kernel_rfl) (fun _ _ _ h => h) (Or.inl ⟨by kernel_rfl, fun w hS => by go_simp⟩) trivial ?_
      change wpAnyH _ _ _ _ _ _ _ (Act.put _ (some 52) (.int .i64 (a.size : Int))) _
      simp only [Act.put, List.setIfInBounds_toArray, List.set_cons_zero, List.set_cons_succ]
      refine wpAnyH_take (i := 6) (v := .string l) rfl (by kernel_rfl) (by kernel_rfl) (by kernel_rfl) (fun _ _ _ h => h) (Or.inl ⟨by kernel_rfl, fun w _ => by kernel_rfl⟩) trivial ?_
      change wpAnyH _ _ _ _ _ _ _ (Act.put _ (some 53) (.string l)) _
      simp only [Act.put, List.setIfInBounds_toArray, List.set_cons_zero, List.set_cons_succ]
      refine wpAnyH_take (i := 7) (v := .int .i64 (l.size : Int)) rfl (by kernel_rfl) (by kernel_rfl) (by kernel_rfl) (fun _ _ _ h => h) (Or.inl ⟨by kernel_rfl, fun w hS => by go_simp⟩) trivial ?_
      change wpAnyH _ _ _ _ _ _ _ (Act.put _ (some 54) (.int .i64 (l.size : Int))) _
      simp only [Act.put, List.setIfInBounds_toArray, List.set_cons_zero, List.set_cons_succ]
      refine wpAnyH_take (i := 8) (v := .int .i64 (n : Int)) rfl (by kernel_rfl) (by kernel_rfl) (by kernel_rfl) (fun _ _ _ h => h) (Or.inl ⟨by kernel_rfl, fun w hS => by go_simp⟩) trivial ?_
      change wpAnyH _ _ _ _ _ _ _ (Act.put _ (some 55) (.int .i64 (n : Int))) _
      simp only [Act.put, List.setIfInBounds_toArray, List.set_cons_zero, List.set_cons_succ]
      refine wpAnyH_take (i := 9) (v := .string t1) rfl (by kernel_rfl) (by kernel_rfl) (by kernel_rfl) (fun _ _ _ h => h) (Or.inl ⟨by kernel_rfl, fun w hS => by go_simp⟩) trivial ?_
      change wpAnyH _ _ _ _ _ _ _ (Act.put _ (some 56) (.string t1)) _
      simp only [Act.put, List.setIfInBounds_toArray, List.set_cons_zero, List.set_cons_succ]
      refine wpAnyH_take (i := 10) (v := .string o) rfl (by kernel_rfl) (by kernel_rfl) (by kernel_rfl) (fun _ _ _ h => h) (Or.inl ⟨by kernel_rfl, fun w _ => by kernel_rfl⟩) trivial ?_
      change wpAnyH _ _ _ _ _ _ _ (Act.put _ (some 57) (.string o)) _
      simp only [Act.put, List.setIfInBounds_toArray, List.set_cons_zero, List.set_cons_succ]
      refine wpAnyH_take (i := 11) (v := .string t2) rfl (by kernel_rfl) (by kernel_rfl) (by kernel_rfl) (fun _ _ _ h => h) (Or.inl ⟨by kernel_rfl, fun w hS => by go_simp⟩) trivial ?_
      change wpAnyH _ _ _ _ _ _ _ (Act.put _ (some 58) (.string t2)) _
      simp only [Act.put, List.setIfInBounds_toArray, List.set_cons_zero, List.set_cons_succ]
      refine wpAnyH_take (i := 12) (v := .string o) rfl (by kernel_rfl) (by kernel_rfl) (by kernel_rfl) (fun _ _ _ h => h) (Or.inl ⟨by kernel_rfl, fun w _ => by kernel_rfl⟩) trivial ?_
      change wpAnyH _ _ _ _ _ _ _ (Act.put _ (some 59) (.string o)) _
      simp only [Act.put, List.setIfInBounds_toArray, List.set_cons_zero, List.set_cons_succ]
      refine wpAnyH_take (i := 13) (v := .string t3) rfl (by kernel_rfl) (by kernel_rfl) (by kernel_rfl) (fun _ _ _ h => h) (Or.inl ⟨by kernel_rfl, fun w hS => by go_simp⟩) trivial ?_
      change wpAnyH _ _ _ _ _ _ _ (Act.put _ (some 60) (.string t3)) _
      simp only [Act.put, List.setIfInBounds_toArray, List.set_cons_zero, List.set_cons_succ]
      refine wpAnyH_take (i := 14) (v := .string l) rfl (by kernel_rfl) (by kernel_rfl) (by kernel_rfl) (fun _ _ _ h => h) (Or.inl ⟨by kernel_rfl, fun w _ => by kernel_rfl⟩) trivial ?_
      change wpAnyH _ _ _ _ _ _ _ (Act.put _ (some 61) (.string l)) _
      simp only [Act.put, List.setIfInBounds_toArray, List.set_cons_zero, List.set_cons_succ]
      refine wpAnyH_take (i := 15) (v := .string Y) rfl (by kernel_rfl) (by kernel_rfl) (by kernel_rfl) (fun _ _ _ h => h) (Or.inl ⟨by kernel_rfl, fun w hS => by go_simp⟩) trivial ?_
      change wpAnyH _ _ _ _ _ _ _ (Act.put _ (some 62) (.string Y)) _
      simp only [Act.put, List.setIfInBounds_toArray, List.set_cons_zero, List.set_cons_succ]
      refine wpAnyH_ready (rs := [2]) (by kernel_rfl) (by simp) ?_
      refine AllReadyH.cons rfl (fun K hK => ?_) AllReadyH.nil
      go_simp
      go_at_call 11
      refine (HY.out _ (T5.out.keep (Below.refl _ _).drew)).mono ?_
      rintro e w6 ⟨rfl, b6⟩
      refine hK.out _ _ trivial (fun _ => ?_)
      refine wpAnyH_take (i := 16) (v := .bool true) rfl (by kernel_rfl) (by kernel_rfl) (by kernel_rfl) (fun _ _ _ h => h) (Or.inl ⟨by kernel_rfl, fun w hS => by go_simp⟩) trivial ?_
      change wpAnyH _ _ _ _ _ _ _ (Act.put _ (some 63) (.bool true)) _
      simp only [Act.put, List.setIfInBounds_toArray, List.set_cons_zero, List.set_cons_succ]
      refine wpAnyH_take (i := 17) (v := .bool true) rfl (by kernel_rfl) (by kernel_rfl) (by kernel_rfl) (fun _ _ _ h => h) (Or.inl ⟨by kernel_rfl, fun w _ => by kernel_rfl⟩) trivial ?_
      change wpAnyH _ _ _ _ _ _ _ (Act.put _ (some 2) (.bool true)) _
      simp only [Act.put, List.setIfInBounds_toArray, List.set_cons_zero, List.set_cons_succ]
      refine wpAnyH_done (by kernel_rfl) ?_ _
      go_wp2_with fail
      go_ret
      exact ⟨rfl, B5.out.trans (((Below.refl _ _).drew.trans b6).mono B5.out.size)⟩
end Go.Proofs.YtcfhfllcdliaoaaGreatDoor
