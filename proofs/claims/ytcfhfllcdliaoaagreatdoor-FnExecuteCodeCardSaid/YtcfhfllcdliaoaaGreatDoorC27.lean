/- The message of a word, and whether it is of the code: the program's functions; the exported ones. -/
import Derived.Test.YtcfhfllcdliaoaaGreatDoorQ6
import Derived.Test.YtcfhfllcdliaoaaGreatDoorC25
namespace Go.Proofs.YtcfhfllcdliaoaaGreatDoor
open Go.RowKit
set_option linter.unusedVariables false

/-- All tables of chapter 3. -/
def Tab3 (w : World) : Prop := TabB w ∧ Tab2 w
def tab3G : Nat := max 6 tab2G
theorem Tab3.below {w w' : World} {B : Nat} (h : Tab3 w) (hb : Below B w w') (h0 : tab3G < B) : Tab3 w' := ⟨h.1.below hb (by unfold tab3G at h0; omega), h.2.below hb (by unfold tab3G at h0; omega)⟩
theorem Tab3.lt {w : World} (h : Tab3 w) : tab3G < w.heap.size := by have := h.1.lt; have := h.2.lt; unfold tab3G; omega
theorem Tab3.drewN {w : World} (h : Tab3 w) (k : Nat) : Tab3 (w.drewN k) := h
theorem Tab3.alloc {w : World} (h : Tab3 w) (o : Obj) : Tab3 (w.alloc o) := h.below ((Below.refl _ _).alloc (Nat.le_refl _) o) h.lt
theorem wrap_u16_in (n : Int) (h0 : 0 ≤ n) (h1 : n < 65536) : IntKind.u16.wrap n = n := by rw [IntKind.wrap_u16]; omega
theorem or_u16 (a b : Int) (h0 : 0 ≤ a) (h1 : a < 32768) (h2 : 0 ≤ b) (h3 : b < 32768) : bits .or .u16 a b = orI a b := by
  obtain ⟨A, rfl⟩ := Int.eq_ofNat_of_zero_le h0
  obtain ⟨B, rfl⟩ := Int.eq_ofNat_of_zero_le h2
  have hx : A ||| B < 2 ^ 15 := Nat.or_lt_two_pow (by omega) (by omega)
  show IntKind.u16.wrap ((BitVec.ofInt IntKind.u16.bits (A : Int) ||| BitVec.ofInt IntKind.u16.bits (B : Int)).toNat : Int) = _
  have hk : IntKind.u16.bits = 16 := rfl
  have hA : A % 2 ^ IntKind.u16.bits = A := Nat.mod_eq_of_lt (by rw [hk]; omega)
  have hB : B % 2 ^ IntKind.u16.bits = B := Nat.mod_eq_of_lt (by rw [hk]; omega)
  rw [BitVec.toNat_or, BitVec.ofInt_natCast, BitVec.ofInt_natCast, BitVec.toNat_ofNat, BitVec.toNat_ofNat, hA, hB]
  unfold orI
  rw [Int.toNat_natCast, Int.toNat_natCast]
  exact wrap_u16_in _ (by omega) (by omega)
theorem msgHead_le (w : Int) (i : Nat) (hi : i ≤ 3) : 0 ≤ msgHead w i ∧ msgHead w i ≤ 127 := by
  have h0 := scoreI_d w 0
  have h1 := scoreI_d w 1
  have h2 := scoreI_d w 2
  unfold IsD at h0 h1 h2
  have hor : ∀ a b : Int, 0 ≤ a → a ≤ 127 → 0 ≤ b → b ≤ 127 → 0 ≤ orI a b ∧ orI a b ≤ 127 := by
    intro a b ha ha' hb hb'
    refine ⟨orI_nonneg _ _, ?_⟩
    unfold orI
    have := Nat.or_lt_two_pow (n := 7) (x := a.toNat) (y := b.toNat) (by omega) (by omega)
    omega
  have e0 : 0 ≤ msgHead w 0 ∧ msgHead w 0 ≤ 127 := by simp only [msgHead]; omega
  have e1 : 0 ≤ msgHead w 1 ∧ msgHead w 1 ≤ 127 := hor _ _ e0.1 e0.2 (by simp; omega) (by simp; omega)
  have e2 : 0 ≤ msgHead w 2 ∧ msgHead w 2 ≤ 127 := hor _ _ e1.1 e1.2 (by simp; omega) (by simp; omega)
  have e3 : 0 ≤ msgHead w 3 ∧ msgHead w 3 ≤ 127 := hor _ _ e2.1 e2.2 (by simp; omega) (by simp; omega)
  match i, hi with
  | 0, _ => exact e0
  | 1, _ => exact e1
  | 2, _ => exact e2
  | 3, _ => exact e3
theorem word_scores6 (n : Int) (s0 s1 s2 s3 s4 s5 : Int) (w : World) (h : IsW n) (hT : TabB w) (hs : scoresI n = [s0, s1, s2, s3, s4, s5]) :
    Calls Tryz.prog 184 #[.int .u32 n] w fun e w' => e = .returned (.agg #[.int .u8 s0, .int .u8 s1, .int .u8 s2, .int .u8 s3, .int .u8 s4, .int .u8 s5]) ∧ Below w.heap.size w w' := by
  have := word_scores n w h hT
  rw [hs] at this
  exact this
set_option maxHeartbeats 2000000 in
theorem word_message (n : Int) (w : World) (h : IsW n) (hT : TabB w) :
    Calls Tryz.prog 223 #[.int .u32 n] w fun e w' => e = .returned (.int .u16 (messageM n)) ∧ Below w.heap.size w w' := by
  obtain ⟨h0, h1⟩ := h
  have hc0 := colI_range n 0
  have hwt := wt_range (colI n 0)
  obtain ⟨s0, s1, s2, s3, s4, s5, hs6, d0, d1, d2, d3, d4, d5⟩ := (scoresI_row n).six
  have HS6 := Lib.hid hs6
  clear hs6
  have HW0 := Lib.hid (show msgHead n 0 = wt (colI n 0) % 2 * 64 from rfl)
  have hsc : ∀ i : Nat, i < 6 → [s0, s1, s2, s3, s4, s5].getD i 0 = scoreI n i := fun i hi => by
    rw [← HS6.out]
    match i, hi with
    | 0, _ => rfl
    | 1, _ => rfl
    | 2, _ => rfl
    | 3, _ => rfl
    | 4, _ => rfl
    | 5, _ => rfl
  have HSC := Lib.hid hsc
  clear hsc
  generalize hW : wt (colI n 0) = W at *
  have HW := Lib.hid hW
  clear hW
  go_enter Tryz.func223, Tryz.ntmps223
  go_wp2_with (first
    | (go_at_call 222; refine (word_column _ 0 _ h0 h1 (by omega)).mono ?_; rintro e w' ⟨rfl, rfl⟩)
    | (go_at_call 44; refine (word_weight _ _ (by omega) (by omega)).mono ?_; rintro e w' ⟨he, k, rfl⟩; rw [HW.out] at he; subst he)
    | (go_at_call 184; refine (word_scores6 n s0 s1 s2 s3 s4 s5 _ ⟨h0, h1⟩ (TabB.drewN hT _) HS6.out).mono ?_; rintro e w1 ⟨rfl, b1⟩))
  have HB := Lib.hid (b1.size)
  refine wp_loop_rounds 4 ?_
  iterate 4 (rw [rounds_succ]; go_wp2_with fail)
  have hE : bits .or .u16 (bits .or .u16 (bits .or .u16 (W % 2 * 64) (IntKind.u16.wrap (IntKind.u16.wrap s0))) (IntKind.u16.wrap (IntKind.u16.wrap s1 * 4))) (IntKind.u16.wrap (IntKind.u16.wrap s2 * 16)) = msgHead n 3 := by
    have e0 := HSC.out 0 (by omega)
    have e1 := HSC.out 1 (by omega)
    have e2 := HSC.out 2 (by omega)
    simp only [List.getD_cons_zero, List.getD_cons_succ] at e0 e1 e2
    unfold IsD at d0 d1 d2
    have l0 := msgHead_le n 0 (by omega)
    have l1 := msgHead_le n 1 (by omega)
    have l2 := msgHead_le n 2 (by omega)
    have f1 : msgHead n 1 = orI (msgHead n 0) s0 := by rw [e0]; show orI _ (_ * 2 ^ 0) = _; simp
    have f2 : msgHead n 2 = orI (msgHead n 1) (s1 * 4) := by rw [e1]; rfl
    have f3 : msgHead n 3 = orI (msgHead n 2) (s2 * 16) := by rw [e2]; rfl
    rw [← HW0.out, wrap_u16_in s0 (by omega) (by omega), wrap_u16_in s0 (by omega) (by omega), wrap_u16_in s1 (by omega) (by omega), wrap_u16_in s2 (by omega) (by omega), wrap_u16_in (s1 * 4) (by omega) (by omega), wrap_u16_in (s2 * 16) (by omega) (by omega),
      or_u16 _ s0 l0.1 (by omega) (by omega) (by omega), ← f1, or_u16 _ (s1 * 4) l1.1 (by omega) (by omega) (by omega), ← f2, or_u16 _ (s2 * 16) l2.1 (by omega) (by omega) (by omega), ← f3]
  rw [hE]
  clear hE
  go_loop [3, 6] (fun v i => ∃ j : Nat, j ≤ 5 ∧ i = .int .i64 ((j : Int) + 1) ∧ v = .int .u16 (msgTail n j)) (fun _ i => 6 - (intOf i).toNat)
  case atStart => exact ⟨0, by omega, rfl, rfl⟩
  case round =>
    obtain ⟨j, hj, rfl, rfl⟩ := hrel
    have hr := msgTail_rng n j
    by_cases hlt : j < 5
    · have hp : (2 : Int) ^ (7 + j) ≤ 2048 := by
        obtain rfl | rfl | rfl | rfl | rfl : j = 0 ∨ j = 1 ∨ j = 2 ∨ j = 3 ∨ j = 4 := by omega
        all_goals decide
      have hp0 : (0 : Int) < 2 ^ (7 + j) := Int.pow_pos (by decide)
      have hor := or_u16 (msgTail n j) (2 ^ (7 + j)) hr.1 (by omega) (by omega) (by omega)
      have hwp : IntKind.u16.wrap (2 ^ (7 + j)) = 2 ^ (7 + j) := wrap_u16_in _ (by omega) (by omega)
      have h41 : (4 * ((j : Int) + 1)) = ((j : Int) + 1) * 4 := by omega
      rcases hb : (bitI n (((j : Int) + 1) * 4) == 1) with _ | _
      · have HS := Lib.hid (show msgTail n (j + 1) = msgTail n j by simp only [msgTail]; rw [h41, if_neg (by simpa using hb)])
        generalize msgTail n j = V at *
        have HBB := Lib.hid hb
        clear hb hor
        go_wp2_with (first
          | (go_at_call 65; refine (placeAt_calls _ _ _ (by omega) (by omega) (by omega) (by omega)).mono ?_; rintro e w' ⟨rfl, rfl⟩)
          | (go_at_call 64; refine (word_has _ _ _ h0 h1 (by omega) (by omega)).mono ?_; rintro e w' ⟨rfl, rfl⟩; rw [HBB.out]))
        go_round
        case rel => exact ⟨j + 1, by omega, by go_num, by rw [HS.out]⟩
        case measure => simp [intOf]; omega
      · have HS := Lib.hid (show msgTail n (j + 1) = orI (msgTail n j) (2 ^ (7 + j)) by simp only [msgTail]; rw [h41, if_pos (by simpa using hb)])
        generalize msgTail n j = V at *
        have HBB := Lib.hid hb
        have HOR := Lib.hid hor
        clear hb hor
        go_wp2_with (first
          | (go_at_call 65; refine (placeAt_calls _ _ _ (by omega) (by omega) (by omega) (by omega)).mono ?_; rintro e w' ⟨rfl, rfl⟩)
          | (go_at_call 64; refine (word_has _ _ _ h0 h1 (by omega) (by omega)).mono ?_; rintro e w' ⟨rfl, rfl⟩; rw [HBB.out]))
        go_round
        case rel => exact ⟨j + 1, by omega, by go_num, by rw [HS.out, HOR.out]⟩
        case measure => simp [intOf]; omega
    · obtain rfl : j = 5 := by omega
      have HM := Lib.hid (show msgTail n 5 = messageM n from rfl)
      generalize msgTail n 5 = V at *
      go_wp2
      go_ret
      exact ⟨ret_i HM.out, (below_drewN (Below.refl w.heap.size w) k).trans (b1.alloc b1.size _)⟩
theorem word_inCode (n : Int) (w : World) (h : IsW n) (hT : Tab3 w) :
    Calls Tryz.prog 186 #[.int .u32 n] w fun e w' => e = .returned (.bool (codeInB n)) ∧ Below w.heap.size w w' := by
  have hm := messageM_rng n
  have HC := Lib.hid (codeIn_back n h.1 h.2)
  go_enter Tryz.func186, Tryz.ntmps186
  go_wp2_with fail
  refine (word_message n _ h hT.1).mono ?_
  rintro e w1 ⟨rfl, b1⟩
  go_wp2_with fail
  refine (message_word _ _ hm (hT.2.below b1 hT.2.lt)).mono ?_
  rintro e w2 ⟨rfl, b2⟩
  go_wp2_with fail
  go_ret
  exact ⟨ret_b (by rw [HC.out]; rfl), b1.trans (b2.mono b1.size)⟩
theorem iCodeScores_calls (n : Int) (w : World) (hT : TabB w) :
    Calls Tryz.prog 133 #[.int .i64 n] w (GotL w (cScores n).1 (cScores n).2) := by
  rcases hb : wordB n with _ | _
  · have hn := (wordB_no n).1 hb
    rw [show cScores n = ([], false) by simp [cScores, hb]]
    clear hb
    go_enter Tryz.func133, Tryz.ntmps133
    go_wp2_with (go_at_call 40; refine (wordFrom_no _ _ hn).mono ?_; rintro e w' ⟨rfl, rfl⟩)
    go_ret2
    exact ⟨_, rfl, Own.nil_ _ _, Below.refl _ _⟩
  · have hn := (wordB_iff n).1 hb
    rw [show cScores n = (scoresI n, true) by simp [cScores, hb]]
    obtain ⟨s0, s1, s2, s3, s4, s5, hs6, d0, d1, d2, d3, d4, d5⟩ := (scoresI_row n).six
    rw [hs6]
    have HS6 := Lib.hid hs6
    clear hb hs6
    go_enter Tryz.func133, Tryz.ntmps133
    go_wp2_with (go_at_call 40; refine (wordFrom_ok _ _ hn.1 hn.2).mono ?_; rintro e w' ⟨rfl, rfl⟩)
    refine (word_scores6 n s0 s1 s2 s3 s4 s5 _ hn hT HS6.out).mono ?_
    rintro e w1 ⟨rfl, b1⟩
    go_wp2_with fail
    refine (hexRow_list_calls _ _ _ _ _ _ _ d0 d1 d2 d3 d4 d5).mono ?_
    rintro e w2 ⟨v, rfl, o2, b2⟩
    go_wp2_with fail
    go_ret2
    exact ⟨v, rfl, o2.weak b1.size, b1.trans (b2.mono b1.size)⟩
theorem iCodeIn_calls (n : Int) (w : World) (hT : Tab3 w) :
    Calls Tryz.prog 134 #[.int .i64 n] w fun e w' => e = .returned (.bool (cIn n)) ∧ Below w.heap.size w w' := by
  rcases hb : wordB n with _ | _
  · have hn := (wordB_no n).1 hb
    rw [show cIn n = false by simp [cIn, hb]]
    clear hb
    go_enter Tryz.func134, Tryz.ntmps134
    go_wp2_with (go_at_call 40; refine (wordFrom_no _ _ hn).mono ?_; rintro e w' ⟨rfl, rfl⟩)
    go_ret
    exact ⟨rfl, Below.refl _ _⟩
  · have hn := (wordB_iff n).1 hb
    rw [show cIn n = codeInB n by simp [cIn, hb]]
    clear hb
    go_enter Tryz.func134, Tryz.ntmps134
    go_wp2_with (first
      | (go_at_call 40; refine (wordFrom_ok _ _ hn.1 hn.2).mono ?_; rintro e w' ⟨rfl, rfl⟩)
      | (go_at_call 186; refine (word_inCode _ _ hn hT).mono ?_; rintro e w1 ⟨rfl, b1⟩))
    go_ret
    exact ⟨rfl, b1⟩
end Go.Proofs.YtcfhfllcdliaoaaGreatDoor
