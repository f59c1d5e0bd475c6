/- The walks of promises 82, 83 and 84. -/
import Derived.Test.YtcfhfllcdliaoaaGreatDoorC215
import Derived.Test.YtcfhfllcdliaoaaGreatDoorC211
import Derived.Test.YtcfhfllcdliaoaaGreatDoorC29
import Derived.Test.YtcfhfllcdliaoaaGreatDoorHC
import Derived.Test.YtcfhfllcdliaoaaGreatDoorW7
import Derived.Test.YtcfhfllcdliaoaaGreatDoorQ2
namespace Go.Proofs.YtcfhfllcdliaoaaGreatDoor
open Go.RowKit
set_option linter.unusedVariables false
set_option linter.unusedSimpArgs false
attribute [local irreducible] octS cN octF syn nearL farI

theorem dig_calls (n : Nat) (h : n ≤ 16777216) (w : World) : Calls Tryz.prog 18 #[.int .i64 (n : Int)] w fun e w' => e = .returned (.string (BA (decN n))) ∧ Below w.heap.size w w' := by
  have h2 := digits_calls 7 n (by omega) (by omega) w
  rwa [show decB (n : Int) = BA (decN n) by unfold decB; rw [Int.toNat_natCast]; rfl] at h2
theorem dec_len8 {n : Nat} (h : n ≤ 16777216) : (decN n).length ≤ 8 := decN_len 7 n (by omega)
theorem wordT_eq (n : Nat) : ([115, 101, 116, 32] ++ decN n) ++ [10, 115, 104, 111, 119, 10, 119, 101, 105, 103, 104, 116, 10, 110, 101, 97, 114, 10] = wordT n := by simp [wordT, wSet]
theorem mendT_eq (n : Nat) : ([115, 101, 116, 32] ++ decN n) ++ [10, 109, 101, 110, 100, 10, 105, 110, 10] = mendT n := by simp [mendT, wSet]
theorem codeT_eq (n : Nat) : ([99, 111, 100, 101, 32] ++ decN n) ++ [10, 105, 110, 10, 109, 101, 110, 100, 10] = codeT n := by simp [codeT, wCode]
theorem wordT_len {n : Nat} (h : n ≤ 16777216) : (BA (wordT n)).size ≤ 600 := by
  show (wordT n).length ≤ 600
  have := dec_len8 h
  unfold wordT
  simp [wSet]
  omega
theorem mendT_len {n : Nat} (h : n ≤ 16777216) : (BA (mendT n)).size ≤ 600 := by
  show (mendT n).length ≤ 600
  have := dec_len8 h
  unfold mendT
  simp [wSet]
  omega
theorem codeT_len {n : Nat} (h : n ≤ 16777216) : (BA (codeT n)).size ≤ 600 := by
  show (codeT n).length ≤ 600
  have := dec_len8 h
  unfold codeT
  simp [wCode]
  omega
theorem cIn_codeOf (m : Int) : cIn (codeOf m) = true := by
  unfold cIn
  rw [(wordB_iff _).2 (codeOf_range m), (code_in m).1]
  rfl
theorem mend_in {n m : Int} (h : cMend n = (m, true)) : IsW n ∧ IsW m ∧ cIn m = true := by
  have hm := cMend_rng n
  rw [h] at hm
  unfold cMend at h
  by_cases hb : (wordB n && decide (farI n ≤ 3)) = true
  · rw [if_pos hb] at h
    rw [Bool.and_eq_true, wordB_iff] at hb
    have hl : 0 < (nearL n).length := by rcases nearL_len n hb.1.1 hb.1.2 with q | q <;> omega
    obtain ⟨k, _, h2, _⟩ := nearL_at n 0 hl
    have e : m = (nearL n).getD 0 0 := (congrArg Prod.fst h).symm
    refine ⟨hb.1, hm, ?_⟩
    rw [e, ← h2]
    exact cIn_codeOf _
  · rw [if_neg hb] at h
    exact absurd (congrArg Prod.snd h) (by simp)
theorem mend_code {m : Nat} (h : m < 4096) : cMend (codeOf m) = (codeOf m, true) := by
  have hr := codeOf_range m
  have h0 : xorI (codeOf m) 0 = codeOf m := by
    unfold xorI
    rw [show (0 : Int).toNat = 0 from rfl, Nat.xor_zero]
    omega
  have hd : dI m (codeOf m) ≤ 3 := by
    have := dI_self_xor m 0 (Int.le_refl _)
    rw [h0] at this
    rw [this]
    decide
  obtain ⟨h2, h3⟩ := mend_eq (codeOf m) hr.1 hr.2 m h hd
  unfold cMend
  rw [(wordB_iff _).2 hr, decide_eq_true h2, h3]
  rfl
theorem code_back {n m : Int} (h : cOf n = (m, true)) : IsW n ∧ IsW m ∧ n ≤ 4095 ∧ cIn m = true ∧ cMend m = (m, true) := by
  unfold cOf at h
  by_cases hb : msgB n = true
  · rw [if_pos hb] at h
    have hn := (msgB_iff n).1 hb
    obtain ⟨k, rfl⟩ := Int.eq_ofNat_of_zero_le hn.1
    have e : m = codeOf (k : Int) := (congrArg Prod.fst h).symm
    rw [e]
    exact ⟨⟨hn.1, by omega⟩, codeOf_range _, hn.2, cIn_codeOf _, mend_code (by omega)⟩
  · rw [if_neg hb] at h
    exact absurd (congrArg Prod.snd h) (by simp)
set_option maxHeartbeats 4000000 in
theorem walk_FnExecuteWord (a0 : Option Addr) (len0 cap0 : Nat) (z0 : List Int) (w : World) (w0 : IsRow .u8 w a0 len0 cap0 z0) (hT : TabX w) :
    Calls Tryz.prog 6 #[.slice a0 len0 cap0] w fun e w' => e = .returned (.bool true) ∧ Below w.heap.size w w' := by
  obtain ⟨bs, rfl, hr, hc, hm, hv⟩ := w0.bytes
  have hm' := hm
  unfold maxLen at hm'
  by_cases hbig : 1048576 < bs.length
  · go_enter Tryz.func6, Tryz.ntmps6
    go_wp2_with fail
    go_ret
    exact ⟨rfl, Below.refl _ _⟩
  · have hbig' : bs.length ≤ 1048576 := by omega
    have HT := Lib.hid hT
    have HD := Lib.hid (DrawWordText_calls _ _ bs _ hr hc hm hv)
    clear hbig hr hc hm hv hm' w0 hT
    go_enter Tryz.func6, Tryz.ntmps6
    go_wp2_with fail
    refine HD.out.mono ?_
    rintro e w1 ⟨a, rfl, a0, a1, b⟩
    have B1 := Lib.hid b
    have T1 := Lib.hid (HT.out.keep b)
    clear b HD
    rcases isW_or a with h | h
    · obtain ⟨n, rfl⟩ := Int.eq_ofNat_of_zero_le h.1
      have hn : n ≤ 16777215 := by have := h.2; omega
      have HX := Lib.hid (fun W h => iExecute_calls (BA (wordT n)) W (by have := wordT_len (n := n) (by omega); unfold maxLen; omega) h)
      rw [execA_out (wordT_len (by omega)), exec_word hn] at HX
      obtain ⟨q, hq⟩ := Int.eq_ofNat_of_zero_le (wt_range (n : Int)).1
      have hq24 : q ≤ 24 := by have := (wt_range (n : Int)).2; omega
      have hfr := far_range (n : Int) h.1 h.2
      have hcf : cFar (n : Int) = farI (n : Int) := by unfold cFar; rw [if_pos ((wordB_iff _).2 h)]
      obtain ⟨f, hf⟩ := Int.eq_ofNat_of_zero_le hfr.1
      have hf4 : f ≤ 4 := by have := hfr.2; omega
      have HW := Lib.hid (fun W => iWordWeight_ok (n : Int) W h)
      have HF := Lib.hid (fun W (hT : TabX W) => iCodeFar_calls (n : Int) W hT.1.2)
      rw [hq] at HW HX
      rw [hcf, hf] at HF HX
      rw [Int.toNat_natCast, Int.toNat_natCast] at HX
      have HI := Lib.hid (fun W => iWordText_ok (n : Int) W h)
      have HS := Lib.hid (fun W => sWordText_ok (n : Int) W h)
      rw [show txt (n : Int) = BA (chrs (n : Int) 27) from rfl] at HI HS
      have HDn := Lib.hid (fun W => dig_calls n (by omega) W)
      have HDq := Lib.hid (fun W => dig_calls q (by omega) W)
      have HDf := Lib.hid (fun W => dig_calls f (by omega) W)
      have l1 := dec_len8 (n := n) (by omega)
      have l2 := dec_len8 (n := q) (by omega)
      have l3 := dec_len8 (n := f) (by omega)
      have l4 := chrs_len (n : Int) 27
      have hE := wordT_eq n
      generalize chrs (n : Int) 27 = C at *
      have hO : outL ((n : Int), (aOk ++ [10]) ++ ((C ++ [10]) ++ ((decN q ++ [10]) ++ (decN f ++ [10])))) = ((((((([111, 107, 10] ++ C) ++ [10]) ++ decN q) ++ [10]) ++ decN f) ++ [10, 119, 111, 114, 100, 32]) ++ decN n) ++ [10] := by
        unfold outL lastW
        rw [Int.toNat_natCast]
        simp [aOk, wWord]
      rw [hO] at HX
      generalize wordT n = T at *
      generalize decN n = Dn at *
      generalize decN q = Dq at *
      generalize decN f = Df at *
      have s1 : ∀ W : World, (Op.stringOp .add (⟨#[115, 101, 116, 32]⟩ : ByteArray) (BA Dn)).run Tryz.prog W = .ok (.string (BA ([115, 101, 116, 32] ++ Dn))) W := fun W => ba_add _ _ (by simp; omega) W
      have s2 : ∀ W : World, (Op.stringOp .add (BA ([115, 101, 116, 32] ++ Dn)) (⟨#[10, 115, 104, 111, 119, 10, 119, 101, 105, 103, 104, 116, 10, 110, 101, 97, 114, 10]⟩ : ByteArray)).run Tryz.prog W = .ok (.string (BA T)) W := fun W => by rw [← hE]; exact ba_add _ _ (by simp; omega) W
      have s3 : ∀ W : World, (Op.stringOp .add (⟨#[111, 107, 10]⟩ : ByteArray) (BA C)).run Tryz.prog W = .ok (.string (BA ([111, 107, 10] ++ C))) W := fun W => ba_add _ _ (by simp; omega) W
      generalize hp1 : [111, 107, 10] ++ C = p1 at *
      have q1 : p1.length = 30 := by rw [← hp1, List.length_append, l4]; rfl
      have s4 : ∀ W : World, (Op.stringOp .add (BA p1) (⟨#[10]⟩ : ByteArray)).run Tryz.prog W = .ok (.string (BA (p1 ++ [10]))) W := fun W => ba_add _ _ (by simp; omega) W
      generalize hp2 : p1 ++ [10] = p2 at *
      have q2 : p2.length = 31 := by rw [← hp2, List.length_append, q1]; rfl
      have s5 : ∀ W : World, (Op.stringOp .add (BA p2) (BA Dq)).run Tryz.prog W = .ok (.string (BA (p2 ++ Dq))) W := fun W => ba_add _ _ (by omega) W
      generalize hp3 : p2 ++ Dq = p3 at *
      have q3 : p3.length ≤ 39 := by rw [← hp3, List.length_append]; omega
      have s6 : ∀ W : World, (Op.stringOp .add (BA p3) (⟨#[10]⟩ : ByteArray)).run Tryz.prog W = .ok (.string (BA (p3 ++ [10]))) W := fun W => ba_add _ _ (by simp; omega) W
      generalize hp4 : p3 ++ [10] = p4 at *
      have q4 : p4.length ≤ 40 := by rw [← hp4, List.length_append]; simp; omega
      have s7 : ∀ W : World, (Op.stringOp .add (BA p4) (BA Df)).run Tryz.prog W = .ok (.string (BA (p4 ++ Df))) W := fun W => ba_add _ _ (by omega) W
      generalize hp5 : p4 ++ Df = p5 at *
      have q5 : p5.length ≤ 48 := by rw [← hp5, List.length_append]; omega
      have s8 : ∀ W : World, (Op.stringOp .add (BA p5) (⟨#[10, 119, 111, 114, 100, 32]⟩ : ByteArray)).run Tryz.prog W = .ok (.string (BA (p5 ++ [10, 119, 111, 114, 100, 32]))) W := fun W => ba_add _ _ (by simp; omega) W
      generalize hp6 : p5 ++ [10, 119, 111, 114, 100, 32] = p6 at *
      have q6 : p6.length ≤ 54 := by rw [← hp6, List.length_append]; simp; omega
      have s9 : ∀ W : World, (Op.stringOp .add (BA p6) (BA Dn)).run Tryz.prog W = .ok (.string (BA (p6 ++ Dn))) W := fun W => ba_add _ _ (by omega) W
      generalize hp7 : p6 ++ Dn = p7 at *
      have q7 : p7.length ≤ 62 := by rw [← hp7, List.length_append]; omega
      have s10 : ∀ W : World, (Op.stringOp .add (BA p7) (⟨#[10]⟩ : ByteArray)).run Tryz.prog W = .ok (.string (BA (p7 ++ [10]))) W := fun W => ba_add _ _ (by simp; omega) W
      generalize hp8 : p7 ++ [10] = p8 at *
      clear hp1 hp2 hp3 hp4 hp5 hp6 hp7 hp8 q1 q2 q3 q4 q5 q6 q7 hE hO l1 l2 l3 l4 hq hf hcf hfr hq24 hf4 hn h a0 a1
      generalize BA ([115, 101, 116, 32] ++ Dn) = t1 at *
      generalize BA T = t2 at *
      generalize BA p1 = r1 at *
      generalize BA p2 = r2 at *
      generalize BA p3 = r3 at *
      generalize BA p4 = r4 at *
      generalize BA p5 = r5 at *
      generalize BA p6 = r6 at *
      generalize BA p7 = r7 at *
      generalize BA p8 = r8 at *
      generalize BA Dn = dn at *
      generalize BA Dq = dq at *
      generalize BA Df = df at *
      generalize BA C = cc at *
      go_wp2_with fail
      refine (HI.out _).mono ?_
      rintro e w2 ⟨rfl, b⟩
      have B2 := Lib.hid (B1.out.trans (b.mono B1.out.size))
      have T2 := Lib.hid (T1.out.keep b)
      clear b
      go_wp2_with fail
      refine (HS.out _).mono ?_
      rintro e w' ⟨rfl, rfl⟩
      go_wp2_with fail
      refine (HDn.out _).mono ?_
      rintro e w3 ⟨rfl, b⟩
      have B3 := Lib.hid (B2.out.trans (b.mono B2.out.size))
      have T3 := Lib.hid (T2.out.keep b)
      clear b
      go_wp2_with fail
      refine (HX.out _ T3.out).mono ?_
      rintro e w4 ⟨rfl, b⟩
      have B4 := Lib.hid (B3.out.trans (b.mono B3.out.size))
      have T4 := Lib.hid (T3.out.keep b)
      clear b
      go_wp2_with fail
      refine (HW.out _).mono ?_
      rintro e w5 ⟨rfl, kk, rfl⟩
      have b5 := below_drewN w4 kk
      have B5 := Lib.hid (B4.out.trans (b5.mono B4.out.size))
      have T5 := Lib.hid (T4.out.keep b5)
      clear b5
      go_wp2_with fail
      refine (HDq.out _).mono ?_
      rintro e w6 ⟨rfl, b⟩
      have B6 := Lib.hid (B5.out.trans (b.mono B5.out.size))
      have T6 := Lib.hid (T5.out.keep b)
      clear b
      go_wp2_with fail
      refine (HF.out _ T6.out).mono ?_
      rintro e w7 ⟨rfl, b⟩
      have B7 := Lib.hid (B6.out.trans (b.mono B6.out.size))
      have T7 := Lib.hid (T6.out.keep b)
      clear b
      go_wp2_with fail
      refine (HDf.out _).mono ?_
      rintro e w8 ⟨rfl, b⟩
      have B8 := Lib.hid (B7.out.trans (b.mono B7.out.size))
      have T8 := Lib.hid (T7.out.keep b)
      clear b
      go_wp2_with fail
      go_ret
      exact ⟨rfl, B8.out⟩
    · clear a0 a1
      go_wp2_with fail
      refine (iWordText_no a _ h).mono ?_
      rintro e w' ⟨rfl, rfl⟩
      go_wp2_with fail
      refine (sWordText_no a _ h).mono ?_
      rintro e w' ⟨rfl, rfl⟩
      go_wp2_with fail
      go_ret
      exact ⟨rfl, B1.out⟩
set_option maxHeartbeats 4000000 in
theorem walk_FnExecuteMend (a0 : Option Addr) (len0 cap0 : Nat) (z0 : List Int) (w : World) (w0 : IsRow .u8 w a0 len0 cap0 z0) (hT : TabX w) :
    Calls Tryz.prog 7 #[.slice a0 len0 cap0] w fun e w' => e = .returned (.bool true) ∧ Below w.heap.size w w' := by
  obtain ⟨bs, rfl, hr, hc, hm, hv⟩ := w0.bytes
  have hm' := hm
  unfold maxLen at hm'
  by_cases hbig : 1048576 < bs.length
  · go_enter Tryz.func7, Tryz.ntmps7
    go_wp2_with fail
    go_ret
    exact ⟨rfl, Below.refl _ _⟩
  · have hbig' : bs.length ≤ 1048576 := by omega
    have HT := Lib.hid hT
    have HD := Lib.hid (DrawCodeMend_calls _ _ bs _ hr hc hm hv)
    clear hbig hr hc hm hv hm' w0 hT
    go_enter Tryz.func7, Tryz.ntmps7
    go_wp2_with fail
    refine HD.out.mono ?_
    rintro e w1 ⟨a, rfl, a0, a1, b⟩
    have B1 := Lib.hid b
    have T1 := Lib.hid (HT.out.keep b)
    clear b HD
    have HI := Lib.hid (iCodeMend_calls a w1 T1.out.1.2)
    have HS := Lib.hid (fun W => sCodeMend_calls a W)
    obtain ⟨c, hc⟩ : ∃ c, cMend a = c := ⟨_, rfl⟩
    rw [hc] at HI HS
    obtain ⟨m, b⟩ := c
    rcases b with _ | _
    · clear hc a0 a1
      go_wp2_with fail
      refine (HI.out).mono ?_
      rintro e w2 ⟨rfl, b⟩
      have B2 := Lib.hid (B1.out.trans (b.mono B1.out.size))
      have T2 := Lib.hid (T1.out.keep b)
      clear b
      go_wp2_with fail
      refine (HS.out _).mono ?_
      rintro e w3 ⟨rfl, b⟩
      have B3 := Lib.hid (B2.out.trans (b.mono B2.out.size))
      have T3 := Lib.hid (T2.out.keep b)
      clear b
      go_wp2_with fail
      go_ret
      exact ⟨rfl, B3.out⟩
    · obtain ⟨ha, hmw, hi⟩ := mend_in hc
      obtain ⟨n, rfl⟩ := Int.eq_ofNat_of_zero_le ha.1
      have hn : n ≤ 16777215 := by have := ha.2; omega
      obtain ⟨k, rfl⟩ := Int.eq_ofNat_of_zero_le hmw.1
      have hk : k ≤ 16777215 := by have := hmw.2; omega
      have HX := Lib.hid (fun W h => iExecute_calls (BA (mendT n)) W (by have := mendT_len (n := n) (by omega); unfold maxLen; omega) h)
      rw [execA_out (mendT_len (by omega)), exec_mend hn hc hi] at HX
      have HDn := Lib.hid (fun W => dig_calls n (by omega) W)
      have HDk := Lib.hid (fun W => dig_calls k (by omega) W)
      have l1 := dec_len8 (n := n) (by omega)
      have l2 := dec_len8 (n := k) (by omega)
      have hE := mendT_eq n
      have hO : outL ((k : Int), [111, 107, 10, 111, 107, 10, 121, 101, 115, 10]) = ([111, 107, 10, 111, 107, 10, 121, 101, 115, 10, 119, 111, 114, 100, 32] ++ decN k) ++ [10] := by
        unfold outL lastW
        rw [Int.toNat_natCast]
        simp [wWord]
      rw [hO] at HX
      generalize mendT n = T at *
      generalize decN n = Dn at *
      generalize decN k = Dk at *
      have s1 : ∀ W : World, (Op.stringOp .add (⟨#[115, 101, 116, 32]⟩ : ByteArray) (BA Dn)).run Tryz.prog W = .ok (.string (BA ([115, 101, 116, 32] ++ Dn))) W := fun W => ba_add _ _ (by simp; omega) W
      have s2 : ∀ W : World, (Op.stringOp .add (BA ([115, 101, 116, 32] ++ Dn)) (⟨#[10, 109, 101, 110, 100, 10, 105, 110, 10]⟩ : ByteArray)).run Tryz.prog W = .ok (.string (BA T)) W := fun W => by rw [← hE]; exact ba_add _ _ (by simp; omega) W
      have s3 : ∀ W : World, (Op.stringOp .add (⟨#[111, 107, 10, 111, 107, 10, 121, 101, 115, 10, 119, 111, 114, 100, 32]⟩ : ByteArray) (BA Dk)).run Tryz.prog W = .ok (.string (BA ([111, 107, 10, 111, 107, 10, 121, 101, 115, 10, 119, 111, 114, 100, 32] ++ Dk))) W := fun W => ba_add _ _ (by simp; omega) W
      have s4 : ∀ W : World, (Op.stringOp .add (BA ([111, 107, 10, 111, 107, 10, 121, 101, 115, 10, 119, 111, 114, 100, 32] ++ Dk)) (⟨#[10]⟩ : ByteArray)).run Tryz.prog W = .ok (.string (BA (([111, 107, 10, 111, 107, 10, 121, 101, 115, 10, 119, 111, 114, 100, 32] ++ Dk) ++ [10]))) W := fun W => ba_add _ _ (by simp; omega) W
      clear hE hO l1 l2 hn hk hi hc hmw ha a0 a1
      generalize BA (([111, 107, 10, 111, 107, 10, 121, 101, 115, 10, 119, 111, 114, 100, 32] ++ Dk) ++ [10]) = r2 at *
      generalize BA ([111, 107, 10, 111, 107, 10, 121, 101, 115, 10, 119, 111, 114, 100, 32] ++ Dk) = r1 at *
      generalize BA ([115, 101, 116, 32] ++ Dn) = t1 at *
      generalize BA T = t2 at *
      generalize BA Dn = dn at *
      generalize BA Dk = dk at *
      go_wp2_with fail
      refine (HI.out).mono ?_
      rintro e w2 ⟨rfl, b⟩
      have B2 := Lib.hid (B1.out.trans (b.mono B1.out.size))
      have T2 := Lib.hid (T1.out.keep b)
      clear b
      go_wp2_with fail
      refine (HS.out _).mono ?_
      rintro e w3 ⟨rfl, b⟩
      have B3 := Lib.hid (B2.out.trans (b.mono B2.out.size))
      have T3 := Lib.hid (T2.out.keep b)
      clear b
      go_wp2_with fail
      refine (HDn.out _).mono ?_
      rintro e w4 ⟨rfl, b⟩
      have B4 := Lib.hid (B3.out.trans (b.mono B3.out.size))
      have T4 := Lib.hid (T3.out.keep b)
      clear b
      go_wp2_with fail
      refine (HX.out _ T4.out).mono ?_
      rintro e w5 ⟨rfl, b⟩
      have B5 := Lib.hid (B4.out.trans (b.mono B4.out.size))
      have T5 := Lib.hid (T4.out.keep b)
      clear b
      go_wp2_with fail
      refine (HDk.out _).mono ?_
      rintro e w6 ⟨rfl, b⟩
      have B6 := Lib.hid (B5.out.trans (b.mono B5.out.size))
      have T6 := Lib.hid (T5.out.keep b)
      clear b
      go_wp2_with fail
      go_ret
      exact ⟨rfl, B6.out⟩
set_option maxHeartbeats 4000000 in
theorem walk_FnExecuteCode (a0 : Option Addr) (len0 cap0 : Nat) (z0 : List Int) (w : World) (w0 : IsRow .u8 w a0 len0 cap0 z0) (hT : TabX w) :
    Calls Tryz.prog 8 #[.slice a0 len0 cap0] w fun e w' => e = .returned (.bool true) ∧ Below w.heap.size w w' := by
  obtain ⟨bs, rfl, hr, hc, hm, hv⟩ := w0.bytes
  have hm' := hm
  unfold maxLen at hm'
  by_cases hbig : 1048576 < bs.length
  · go_enter Tryz.func8, Tryz.ntmps8
    go_wp2_with fail
    go_ret
    exact ⟨rfl, Below.refl _ _⟩
  · have hbig' : bs.length ≤ 1048576 := by omega
    have HT := Lib.hid hT
    have HD := Lib.hid (DrawCodeOf_calls _ _ bs _ hr hc hm hv)
    clear hbig hr hc hm hv hm' w0 hT
    go_enter Tryz.func8, Tryz.ntmps8
    go_wp2_with fail
    refine HD.out.mono ?_
    rintro e w1 ⟨a, rfl, a0, a1, b⟩
    have B1 := Lib.hid b
    have T1 := Lib.hid (HT.out.keep b)
    clear b HD
    have HI := Lib.hid (iCodeOf_calls a w1 T1.out.1.2)
    have HS := Lib.hid (fun W => sCodeOf_calls a W)
    obtain ⟨c, hc⟩ : ∃ c, cOf a = c := ⟨_, rfl⟩
    rw [hc] at HI HS
    obtain ⟨m, b⟩ := c
    rcases b with _ | _
    · clear hc a0 a1
      go_wp2_with fail
      refine (HI.out).mono ?_
      rintro e w2 ⟨rfl, b⟩
      have B2 := Lib.hid (B1.out.trans (b.mono B1.out.size))
      have T2 := Lib.hid (T1.out.keep b)
      clear b
      go_wp2_with fail
      refine (HS.out _).mono ?_
      rintro e w3 ⟨rfl, b⟩
      have B3 := Lib.hid (B2.out.trans (b.mono B2.out.size))
      have T3 := Lib.hid (T2.out.keep b)
      clear b
      go_wp2_with fail
      go_ret
      exact ⟨rfl, B3.out⟩
    · obtain ⟨ha, hmw, h4, hi⟩ := code_back hc
      obtain ⟨n, rfl⟩ := Int.eq_ofNat_of_zero_le ha.1
      have hn : n ≤ 16777215 := by have := ha.2; omega
      have hn4 : n ≤ 4095 := by omega
      obtain ⟨k, rfl⟩ := Int.eq_ofNat_of_zero_le hmw.1
      have hk : k ≤ 16777215 := by have := hmw.2; omega
      have HX := Lib.hid (fun W h => iExecute_calls (BA (codeT n)) W (by have := codeT_len (n := n) (by omega); unfold maxLen; omega) h)
      rw [execA_out (codeT_len (by omega)), exec_code hn4 hc hi.1 hi.2] at HX
      have HDn := Lib.hid (fun W => dig_calls n (by omega) W)
      have HDk := Lib.hid (fun W => dig_calls k (by omega) W)
      have l1 := dec_len8 (n := n) (by omega)
      have l2 := dec_len8 (n := k) (by omega)
      have hE := codeT_eq n
      have hO : outL ((k : Int), [111, 107, 10, 121, 101, 115, 10, 111, 107, 10]) = ([111, 107, 10, 121, 101, 115, 10, 111, 107, 10, 119, 111, 114, 100, 32] ++ decN k) ++ [10] := by
        unfold outL lastW
        rw [Int.toNat_natCast]
        simp [wWord]
      rw [hO] at HX
      generalize codeT n = T at *
      generalize decN n = Dn at *
      generalize decN k = Dk at *
      have s1 : ∀ W : World, (Op.stringOp .add (⟨#[99, 111, 100, 101, 32]⟩ : ByteArray) (BA Dn)).run Tryz.prog W = .ok (.string (BA ([99, 111, 100, 101, 32] ++ Dn))) W := fun W => ba_add _ _ (by simp; omega) W
      have s2 : ∀ W : World, (Op.stringOp .add (BA ([99, 111, 100, 101, 32] ++ Dn)) (⟨#[10, 105, 110, 10, 109, 101, 110, 100, 10]⟩ : ByteArray)).run Tryz.prog W = .ok (.string (BA T)) W := fun W => by rw [← hE]; exact ba_add _ _ (by simp; omega) W
      have s3 : ∀ W : World, (Op.stringOp .add (⟨#[111, 107, 10, 121, 101, 115, 10, 111, 107, 10, 119, 111, 114, 100, 32]⟩ : ByteArray) (BA Dk)).run Tryz.prog W = .ok (.string (BA ([111, 107, 10, 121, 101, 115, 10, 111, 107, 10, 119, 111, 114, 100, 32] ++ Dk))) W := fun W => ba_add _ _ (by simp; omega) W
      have s4 : ∀ W : World, (Op.stringOp .add (BA ([111, 107, 10, 121, 101, 115, 10, 111, 107, 10, 119, 111, 114, 100, 32] ++ Dk)) (⟨#[10]⟩ : ByteArray)).run Tryz.prog W = .ok (.string (BA (([111, 107, 10, 121, 101, 115, 10, 111, 107, 10, 119, 111, 114, 100, 32] ++ Dk) ++ [10]))) W := fun W => ba_add _ _ (by simp; omega) W
      clear hE hO l1 l2 hn hn4 hk hi hc hmw h4 ha a0 a1
      generalize BA (([111, 107, 10, 121, 101, 115, 10, 111, 107, 10, 119, 111, 114, 100, 32] ++ Dk) ++ [10]) = r2 at *
      generalize BA ([111, 107, 10, 121, 101, 115, 10, 111, 107, 10, 119, 111, 114, 100, 32] ++ Dk) = r1 at *
      generalize BA ([99, 111, 100, 101, 32] ++ Dn) = t1 at *
      generalize BA T = t2 at *
      generalize BA Dn = dn at *
      generalize BA Dk = dk at *
      go_wp2_with fail
      refine (HI.out).mono ?_
      rintro e w2 ⟨rfl, b⟩
      have B2 := Lib.hid (B1.out.trans (b.mono B1.out.size))
      have T2 := Lib.hid (T1.out.keep b)
      clear b
      go_wp2_with fail
      refine (HS.out _).mono ?_
      rintro e w3 ⟨rfl, b⟩
      have B3 := Lib.hid (B2.out.trans (b.mono B2.out.size))
      have T3 := Lib.hid (T2.out.keep b)
      clear b
      go_wp2_with fail
      refine (HDn.out _).mono ?_
      rintro e w4 ⟨rfl, b⟩
      have B4 := Lib.hid (B3.out.trans (b.mono B3.out.size))
      have T4 := Lib.hid (T3.out.keep b)
      clear b
      go_wp2_with fail
      refine (HX.out _ T4.out).mono ?_
      rintro e w5 ⟨rfl, b⟩
      have B5 := Lib.hid (B4.out.trans (b.mono B4.out.size))
      have T5 := Lib.hid (T4.out.keep b)
      clear b
      go_wp2_with fail
      refine (HDk.out _).mono ?_
      rintro e w6 ⟨rfl, b⟩
      have B6 := Lib.hid (B5.out.trans (b.mono B5.out.size))
      have T6 := Lib.hid (T5.out.keep b)
      clear b
      go_wp2_with fail
      go_ret
      exact ⟨rfl, B6.out⟩
end Go.Proofs.YtcfhfllcdliaoaaGreatDoor
