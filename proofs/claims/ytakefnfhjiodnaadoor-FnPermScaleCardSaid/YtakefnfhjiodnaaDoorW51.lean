/- The walks of promises 60 and 61. -/
import Derived.Test.YtakefnfhjiodnaaDoorC119
import Derived.Test.YtakefnfhjiodnaaDoorC109
import Derived.Test.YtakefnfhjiodnaaDoorC111
import Derived.Test.YtakefnfhjiodnaaDoorC112
import Derived.Test.YtakefnfhjiodnaaDoorC120
import Derived.Test.YtakefnfhjiodnaaDoorC25
import Derived.Test.YtakefnfhjiodnaaDoorM33
import Derived.Test.YtakefnfhjiodnaaDoorQ3
import Derived.Test.YtakefnfhjiodnaaDoorW8
namespace Go.Proofs.YtakefnfhjiodnaaDoor
open Go.RowKit
set_option linter.unusedVariables false
attribute [local irreducible] cN syn

def w39 : Nat := (codeOf 39).toNat
def hexChk (k : Nat) : Bool := permBN (natP (hexP (hexAt k))) && (decide (intP (natP (hexP (hexAt k))) = hexP (hexAt k)) && (decide (thenN (natP (hexP (hexAt k))) (natP (hexP (hexAt k))) = idN) && (keepsBN (natP (hexP (hexAt k))) && decide (scoresI ((movN (natP (hexP (hexAt k))) w39 : Nat) : Int) = scoresI ((w39 : Nat) : Int)))))
set_option maxRecDepth 100000 in
theorem hex64 : ∀ k : Fin 64, hexChk k.val = true := by decide +kernel
def scTwo (n : Int) : List Nat := thenN (natP (scP n)) (natP (scP n))
def scChk (n : Int) : Bool := permBN (natP (scP n)) && (decide (intP (natP (scP n)) = scP n) && (decide (thenN (scTwo n) (natP (scP n)) = idN) && (keepsBN (natP (scP n)) && decide (scoresI ((movN (natP (scP n)) 54321 : Nat) : Int) = mulR (scoresI 54321) n))))
set_option maxRecDepth 100000 in
theorem sc3 : ∀ k : Fin 3, scChk ((k.val : Int) + 1) = true := by decide +kernel
theorem fixI_id : plFixed (intP idN) = (16777215, true) := by
  have h : permB (intP idN) = true := permB_of idN_perm
  unfold plFixed
  rw [h, natP_intP]
  have : fixTo idN 24 = 16777215 := by decide
  rw [if_pos rfl, this]
  rfl
theorem plTimes_of {xs ys : List Int} (h : permB xs = true) (k : permB ys = true) : plTimes xs ys = (intP (thenN (natP xs) (natP ys)), true) := by simp [plTimes, h, k]
theorem plWord_of {xs : List Int} {n : Int} (h : permB xs = true) (hn : IsW n) : plWord xs n = (((movN (natP xs) n.toNat : Nat) : Int), true) := by
  have : wdB n = true := by simpa [wdB, IsW] using hn
  simp [plWord, h, this]
theorem cScores_of (n : Int) (hn : IsW n) : cScores n = (scoresI n, true) := by
  have hw : wordB n = true := (wordB_iff n).2 hn
  simp [cScores, hw]
theorem isW_mov {xs : List Int} (h : permB xs = true) (v : Nat) : IsW ((movN (natP xs) v : Nat) : Int) := by
  have := movN_lt (permB_perm h).1 v
  exact ⟨by omega, by omega⟩
theorem hex_facts {row : List Int} (h : hIn row = true) : ∃ ts x sc, plHex row = (ts, true) ∧ plTimes ts ts = (intP idN, true) ∧ cOf 39 = (((w39 : Nat) : Int), true) ∧ plWord ts ((w39 : Nat) : Int) = (x, true) ∧ cScores ((w39 : Nat) : Int) = (sc, true) ∧ cScores x = (sc, true) ∧ keepsB ts = true := by
  have h0 := h
  simp only [hIn, Bool.and_eq_true] at h0
  have hr := (rowB_iff row).1 h0.1
  obtain ⟨k, hk, rfl⟩ := ((hexB_iff hr).1 h0.2).at_
  have hc := hex64 ⟨k, hk⟩
  simp only [hexChk, Bool.and_eq_true, decide_eq_true_eq] at hc
  obtain ⟨c1, c2, c3, c4, c5⟩ := hc
  have hP := (permBN_iff _).1 c1
  have hb : permB (hexP (hexAt k)) = true := by rw [← c2]; exact permB_of hP
  have h39 : codeOf 39 = ((w39 : Nat) : Int) := by
    have := codeOf_range 39
    unfold w39
    omega
  have hw39 : IsW ((w39 : Nat) : Int) := by rw [← h39]; exact codeOf_range 39
  refine ⟨hexP (hexAt k), _, scoresI ((w39 : Nat) : Int), by simp [plHex, h], ?_, ?_, plWord_of hb hw39, cScores_of _ hw39, ?_, ?_⟩
  · rw [plTimes_of hb hb, c3]
  · rw [← h39]; simp [cOf, msgB]
  · rw [cScores_of _ (isW_mov hb _), Int.toNat_natCast, c5]
  · rw [keepsB_iff hb]
    exact (keepsBN_iff _).1 c4
theorem sc_facts {n : Int} (h : 1 ≤ n ∧ n ≤ 3) : ∃ ts us x sc sx, plScale n = (ts, true) ∧ plTimes ts ts = (us, true) ∧ plTimes us ts = (intP idN, true) ∧ plWord ts 54321 = (x, true) ∧ cScores 54321 = (sc, true) ∧ cScores x = (sx, true) ∧ hTimes sc n = (sx, true) ∧ keepsB ts = true := by
  obtain ⟨k, hk, rfl⟩ : ∃ k : Nat, k < 3 ∧ n = (k : Int) + 1 := ⟨(n - 1).toNat, by omega, by omega⟩
  have hc := sc3 ⟨k, hk⟩
  simp only [scChk, Bool.and_eq_true, decide_eq_true_eq] at hc
  obtain ⟨c1, c2, c3, c4, c5⟩ := hc
  have hP := (permBN_iff _).1 c1
  have hb : permB (scP ((k : Int) + 1)) = true := by rw [← c2]; exact permB_of hP
  have hb2 := permB_of (thenN_perm hP hP)
  have hd : digB ((k : Int) + 1) = true := (digB_iff _).2 ⟨by omega, by omega⟩
  have hro : rowB (scoresI 54321) = true := (rowB_iff _).2 (scoresI_row 54321)
  refine ⟨scP ((k : Int) + 1), intP (scTwo ((k : Int) + 1)), _, scoresI 54321, mulR (scoresI 54321) ((k : Int) + 1), ?_, plTimes_of hb hb, ?_, plWord_of hb ⟨by omega, by omega⟩, cScores_of _ ⟨by omega, by omega⟩, ?_, ?_, ?_⟩
  · have : 1 ≤ (k : Int) + 1 ∧ (k : Int) + 1 ≤ 3 := ⟨by omega, by omega⟩
    simp [plScale, this]
  · have e := plTimes_of hb2 hb
    rw [natP_intP] at e
    exact e.trans (congrArg (fun z => (intP z, true)) c3)
  · rw [cScores_of _ (isW_mov hb _)]
    exact congrArg (fun z => (z, true)) c5
  · simp [hTimes, hro, hd]
  · rw [keepsB_iff hb]
    exact (keepsBN_iff _).1 c4
set_option maxHeartbeats 4000000 in
theorem walk_FnPermHex (a0 : Option Addr) (len0 cap0 : Nat) (z0 : List Int) (w : World) (w0 : IsRow .u8 w a0 len0 cap0 z0) (hT : Tab3 w) :
    Calls Tryd.prog 10 #[.slice a0 len0 cap0] w fun e w' => e = .returned (.bool true) ∧ Below w.heap.size w w' := by
  obtain ⟨bs, rfl, hr, hc, hm, hv⟩ := w0.bytes
  have hm' := hm
  unfold maxLen at hm'
  by_cases hbig : 1048576 < bs.length
  · go_enter Tryd.func10, Tryd.ntmps10
    go_wp2_with fail
    go_ret
    exact ⟨rfl, Below.refl _ _⟩
  have hbig' : bs.length ≤ 1048576 := by omega
  clear hbig
  go_enter Tryd.func10, Tryd.ntmps10
  go_wp2_with fail
  refine (DrawPermHex_calls _ _ bs _ hr hc hm hv).mono ?_
  rintro e w1 ⟨v, xs, rfl, o1, hl, b1⟩
  obtain ⟨Aa, ca, rfl⟩ := o1.slice
  have B0 := Lib.hid (b1)
  have Oa0 := Lib.hid (o1)
  rcases hb : hIn xs with _ | _
  · have H := Lib.hid (show plHex xs = ([], false) by simp [plHex, hb])
    clear hb
    go_wp2_with fail
    refine (iPermHex_calls Aa ca xs _ (Oa0.out).rds (Oa0.out).len_le (hT.below (B0.out) hT.lt).2.1).mono ?_
    rintro e w1_ ⟨v1_, he, o1_, b1_⟩
    rw [H.out] at he o1_
    dsimp only at he o1_
    subst he
    obtain ⟨Ax, cx, rfl⟩ := o1_.slice
    have B1 := Lib.hid ((B0.out).trans (b1_.mono (B0.out).size))
    have Oa1 := Lib.hid ((Oa0.out).below b1_)
    have Ox1 := Lib.hid (o1_.weak (B0.out).size)
    go_wp2_with fail
    refine (sPermHex_calls Aa ca xs _ (Oa1.out).rds (Oa1.out).len_le).mono ?_
    rintro e w2_ ⟨v2_, he, o2_, b2_⟩
    rw [H.out] at he o2_
    dsimp only at he o2_
    subst he
    obtain ⟨Ay, cy, rfl⟩ := o2_.slice
    have B2 := Lib.hid ((B1.out).trans (b2_.mono (B1.out).size))
    have Oa2 := Lib.hid ((Oa1.out).below b2_)
    have Ox2 := Lib.hid ((Ox1.out).below b2_)
    have Oy2 := Lib.hid (o2_.weak (B1.out).size)
    go_wp2_with fail
    refine (sameInts_calls _ _ _ _ [] [] _ (Ox2.out).rds (Oy2.out).rds (Ox2.out).len_le (Oy2.out).len_le).mono ?_
    rintro e w' ⟨he, k3_, rfl⟩
    rw [eqL_refl] at he
    subst he
    have B3 := Lib.hid (below_drewN (B2.out) k3_)
    have Oa3 := Lib.hid ((Oa2.out).drewN k3_)
    have Ox3 := Lib.hid ((Ox2.out).drewN k3_)
    have Oy3 := Lib.hid ((Oy2.out).drewN k3_)
    go_wp2_with fail
    refine (sameInts_calls _ _ _ _ [] [] _ (Ox3.out).rds (Oy3.out).rds (Ox3.out).len_le (Oy3.out).len_le).mono ?_
    rintro e w' ⟨he, k4_, rfl⟩
    rw [eqL_refl] at he
    subst he
    have B4 := Lib.hid (below_drewN (B3.out) k4_)
    have Oa4 := Lib.hid ((Oa3.out).drewN k4_)
    have Ox4 := Lib.hid ((Ox3.out).drewN k4_)
    have Oy4 := Lib.hid ((Oy3.out).drewN k4_)
    go_wp2_with fail
    go_ret
    first | exact ⟨rfl, B4.out⟩ | exact ⟨rfl, by have hB := B4.out; simp only [World.drewN_drewN] at hB; exact hB⟩
  · obtain ⟨ts, x, sc, f1, f2, f3, f4, f5, f6, f7⟩ := hex_facts hb
    have F1 := Lib.hid f1
    have F2 := Lib.hid f2
    have F3 := Lib.hid f3
    have F4 := Lib.hid f4
    have F5 := Lib.hid f5
    have F6 := Lib.hid f6
    have F7 := Lib.hid f7
    have FI := Lib.hid fixI_id
    generalize intP idN = ds at *
    generalize ((w39 : Nat) : Int) = n39 at *
    clear hb f1 f2 f3 f4 f5 f6 f7
    go_wp2_with fail
    refine (iPermHex_calls Aa ca xs _ (Oa0.out).rds (Oa0.out).len_le (hT.below (B0.out) hT.lt).2.1).mono ?_
    rintro e w1_ ⟨v1_, he, o1_, b1_⟩
    rw [F1.out] at he o1_
    dsimp only at he o1_
    subst he
    obtain ⟨Ax, cx, rfl⟩ := o1_.slice
    have B1 := Lib.hid ((B0.out).trans (b1_.mono (B0.out).size))
    have Oa1 := Lib.hid ((Oa0.out).below b1_)
    have Ox1 := Lib.hid (o1_.weak (B0.out).size)
    go_wp2_with fail
    refine (sPermHex_calls Aa ca xs _ (Oa1.out).rds (Oa1.out).len_le).mono ?_
    rintro e w2_ ⟨v2_, he, o2_, b2_⟩
    rw [F1.out] at he o2_
    dsimp only at he o2_
    subst he
    obtain ⟨Ay, cy, rfl⟩ := o2_.slice
    have B2 := Lib.hid ((B1.out).trans (b2_.mono (B1.out).size))
    have Oa2 := Lib.hid ((Oa1.out).below b2_)
    have Ox2 := Lib.hid ((Ox1.out).below b2_)
    have Oy2 := Lib.hid (o2_.weak (B1.out).size)
    go_wp2_with fail
    refine (sameInts_calls _ _ _ _ ts ts _ (Ox2.out).rds (Oy2.out).rds (Ox2.out).len_le (Oy2.out).len_le).mono ?_
    rintro e w' ⟨he, k3_, rfl⟩
    rw [eqL_refl] at he
    subst he
    have B3 := Lib.hid (below_drewN (B2.out) k3_)
    have Oa3 := Lib.hid ((Oa2.out).drewN k3_)
    have Ox3 := Lib.hid ((Ox2.out).drewN k3_)
    have Oy3 := Lib.hid ((Oy2.out).drewN k3_)
    go_wp2_with fail
    refine (iPermTimes_calls Ax Ax cx cx ts ts _ (Ox3.out).rds (Ox3.out).len_le (Ox3.out).rds (Ox3.out).len_le).mono ?_
    rintro e w4_ ⟨v4_, he, o4_, b4_⟩
    rw [F2.out] at he o4_
    dsimp only at he o4_
    subst he
    obtain ⟨Ao, co, rfl⟩ := o4_.slice
    have B4 := Lib.hid ((B3.out).trans (b4_.mono (B3.out).size))
    have Oa4 := Lib.hid ((Oa3.out).below b4_)
    have Ox4 := Lib.hid ((Ox3.out).below b4_)
    have Oy4 := Lib.hid ((Oy3.out).below b4_)
    have Oo4 := Lib.hid (o4_.weak (B3.out).size)
    go_wp2_with fail
    refine (iPermFixed_calls Ao co ds _ (Oo4.out).rds (Oo4.out).len_le).mono ?_
    rintro e w5_ ⟨he, b5_⟩
    rw [FI.out] at he
    dsimp only at he
    subst he
    have B5 := Lib.hid ((B4.out).trans (b5_.mono (B4.out).size))
    have Oa5 := Lib.hid ((Oa4.out).below b5_)
    have Ox5 := Lib.hid ((Ox4.out).below b5_)
    have Oy5 := Lib.hid ((Oy4.out).below b5_)
    have Oo5 := Lib.hid ((Oo4.out).below b5_)
    go_wp2_with fail
    refine (iCodeOf_calls 39 _ (hT.below (B5.out) hT.lt).2).mono ?_
    rintro e w6_ ⟨he, b6_⟩
    rw [F3.out] at he
    dsimp only at he
    subst he
    have B6 := Lib.hid ((B5.out).trans (b6_.mono (B5.out).size))
    have Oa6 := Lib.hid ((Oa5.out).below b6_)
    have Ox6 := Lib.hid ((Ox5.out).below b6_)
    have Oy6 := Lib.hid ((Oy5.out).below b6_)
    have Oo6 := Lib.hid ((Oo5.out).below b6_)
    go_wp2_with fail
    refine (iPermWord_calls Ax cx ts n39 _ (Ox6.out).rds (Ox6.out).len_le (hT.below (B6.out) hT.lt).1).mono ?_
    rintro e w7_ ⟨he, b7_⟩
    rw [F4.out] at he
    dsimp only at he
    subst he
    have B7 := Lib.hid ((B6.out).trans (b7_.mono (B6.out).size))
    have Oa7 := Lib.hid ((Oa6.out).below b7_)
    have Ox7 := Lib.hid ((Ox6.out).below b7_)
    have Oy7 := Lib.hid ((Oy6.out).below b7_)
    have Oo7 := Lib.hid ((Oo6.out).below b7_)
    go_wp2_with fail
    refine (iCodeScores_calls n39 _ (hT.below (B7.out) hT.lt).1).mono ?_
    rintro e w8_ ⟨v8_, he, o8_, b8_⟩
    rw [F5.out] at he o8_
    dsimp only at he o8_
    subst he
    obtain ⟨Ap, cp, rfl⟩ := o8_.slice
    have B8 := Lib.hid ((B7.out).trans (b8_.mono (B7.out).size))
    have Oa8 := Lib.hid ((Oa7.out).below b8_)
    have Ox8 := Lib.hid ((Ox7.out).below b8_)
    have Oy8 := Lib.hid ((Oy7.out).below b8_)
    have Oo8 := Lib.hid ((Oo7.out).below b8_)
    have Op8 := Lib.hid (o8_.weak (B7.out).size)
    go_wp2_with fail
    refine (iCodeScores_calls x _ (hT.below (B8.out) hT.lt).1).mono ?_
    rintro e w9_ ⟨v9_, he, o9_, b9_⟩
    rw [F6.out] at he o9_
    dsimp only at he o9_
    subst he
    obtain ⟨Aq, cq, rfl⟩ := o9_.slice
    have B9 := Lib.hid ((B8.out).trans (b9_.mono (B8.out).size))
    have Oa9 := Lib.hid ((Oa8.out).below b9_)
    have Ox9 := Lib.hid ((Ox8.out).below b9_)
    have Oy9 := Lib.hid ((Oy8.out).below b9_)
    have Oo9 := Lib.hid ((Oo8.out).below b9_)
    have Op9 := Lib.hid ((Op8.out).below b9_)
    have Oq9 := Lib.hid (o9_.weak (B8.out).size)
    go_wp2_with fail
    refine (iPermKeeps_calls Ax cx ts _ (Ox9.out).rds (Ox9.out).len_le (hT.below (B9.out) hT.lt)).mono ?_
    rintro e w10_ ⟨he, b10_⟩
    rw [F7.out] at he
    subst he
    have B10 := Lib.hid ((B9.out).trans (b10_.mono (B9.out).size))
    have Oa10 := Lib.hid ((Oa9.out).below b10_)
    have Ox10 := Lib.hid ((Ox9.out).below b10_)
    have Oy10 := Lib.hid ((Oy9.out).below b10_)
    have Oo10 := Lib.hid ((Oo9.out).below b10_)
    have Op10 := Lib.hid ((Op9.out).below b10_)
    have Oq10 := Lib.hid ((Oq9.out).below b10_)
    go_wp2_with fail
    refine (sameInts_calls _ _ _ _ sc sc _ (Op10.out).rds (Oq10.out).rds (Op10.out).len_le (Oq10.out).len_le).mono ?_
    rintro e w' ⟨he, k11_, rfl⟩
    rw [eqL_refl] at he
    subst he
    have B11 := Lib.hid (below_drewN (B10.out) k11_)
    have Oa11 := Lib.hid ((Oa10.out).drewN k11_)
    have Ox11 := Lib.hid ((Ox10.out).drewN k11_)
    have Oy11 := Lib.hid ((Oy10.out).drewN k11_)
    have Oo11 := Lib.hid ((Oo10.out).drewN k11_)
    have Op11 := Lib.hid ((Op10.out).drewN k11_)
    have Oq11 := Lib.hid ((Oq10.out).drewN k11_)
    go_wp2_with fail
    go_ret
    first | exact ⟨rfl, B11.out⟩ | exact ⟨rfl, by have hB := B11.out; simp only [World.drewN_drewN] at hB; exact hB⟩
set_option maxHeartbeats 4000000 in
theorem walk_FnPermScale (a0 : Option Addr) (len0 cap0 : Nat) (z0 : List Int) (w : World) (w0 : IsRow .u8 w a0 len0 cap0 z0) (hT : Tab3 w) :
    Calls Tryd.prog 11 #[.slice a0 len0 cap0] w fun e w' => e = .returned (.bool true) ∧ Below w.heap.size w w' := by
  obtain ⟨bs, rfl, hr, hc, hm, hv⟩ := w0.bytes
  have hm' := hm
  unfold maxLen at hm'
  by_cases hbig : 1048576 < bs.length
  · go_enter Tryd.func11, Tryd.ntmps11
    go_wp2_with fail
    go_ret
    exact ⟨rfl, Below.refl _ _⟩
  have hbig' : bs.length ≤ 1048576 := by omega
  clear hbig
  go_enter Tryd.func11, Tryd.ntmps11
  go_wp2_with fail
  refine (DrawPermScale_calls _ _ bs _ hr hc hm hv).mono ?_
  rintro e w1 ⟨n, rfl, n0, n1, b1⟩
  have B0 := Lib.hid (b1)
  by_cases hb : 1 ≤ n ∧ n ≤ 3
  · obtain ⟨ts, us, x, sc, sx, f1, f2, f3, f4, f5, f6, f7, f8⟩ := sc_facts hb
    have F1 := Lib.hid f1
    have F2 := Lib.hid f2
    have F3 := Lib.hid f3
    have F4 := Lib.hid f4
    have F5 := Lib.hid f5
    have F6 := Lib.hid f6
    have F7 := Lib.hid f7
    have F8 := Lib.hid f8
    have FI := Lib.hid fixI_id
    generalize intP idN = ds at *
    clear hb f1 f2 f3 f4 f5 f6 f7 f8
    go_wp2_with fail
    refine (iPermScale_calls n _ (hT.below (B0.out) hT.lt).2.1).mono ?_
    rintro e w1_ ⟨v1_, he, o1_, b1_⟩
    rw [F1.out] at he o1_
    dsimp only at he o1_
    subst he
    obtain ⟨Ax, cx, rfl⟩ := o1_.slice
    have B1 := Lib.hid ((B0.out).trans (b1_.mono (B0.out).size))
    have Ox1 := Lib.hid (o1_.weak (B0.out).size)
    go_wp2_with fail
    refine (sPermScale_calls n _).mono ?_
    rintro e w2_ ⟨v2_, he, o2_, b2_⟩
    rw [F1.out] at he o2_
    dsimp only at he o2_
    subst he
    obtain ⟨Ay, cy, rfl⟩ := o2_.slice
    have B2 := Lib.hid ((B1.out).trans (b2_.mono (B1.out).size))
    have Ox2 := Lib.hid ((Ox1.out).below b2_)
    have Oy2 := Lib.hid (o2_.weak (B1.out).size)
    go_wp2_with fail
    refine (sameInts_calls _ _ _ _ ts ts _ (Ox2.out).rds (Oy2.out).rds (Ox2.out).len_le (Oy2.out).len_le).mono ?_
    rintro e w' ⟨he, k3_, rfl⟩
    rw [eqL_refl] at he
    subst he
    have B3 := Lib.hid (below_drewN (B2.out) k3_)
    have Ox3 := Lib.hid ((Ox2.out).drewN k3_)
    have Oy3 := Lib.hid ((Oy2.out).drewN k3_)
    go_wp2_with fail
    refine (iPermTimes_calls Ax Ax cx cx ts ts _ (Ox3.out).rds (Ox3.out).len_le (Ox3.out).rds (Ox3.out).len_le).mono ?_
    rintro e w4_ ⟨v4_, he, o4_, b4_⟩
    rw [F2.out] at he o4_
    dsimp only at he o4_
    subst he
    obtain ⟨Ao, co, rfl⟩ := o4_.slice
    have B4 := Lib.hid ((B3.out).trans (b4_.mono (B3.out).size))
    have Ox4 := Lib.hid ((Ox3.out).below b4_)
    have Oy4 := Lib.hid ((Oy3.out).below b4_)
    have Oo4 := Lib.hid (o4_.weak (B3.out).size)
    go_wp2_with fail
    refine (iPermTimes_calls Ao Ax co cx us ts _ (Oo4.out).rds (Oo4.out).len_le (Ox4.out).rds (Ox4.out).len_le).mono ?_
    rintro e w5_ ⟨v5_, he, o5_, b5_⟩
    rw [F3.out] at he o5_
    dsimp only at he o5_
    subst he
    obtain ⟨At, ct, rfl⟩ := o5_.slice
    have B5 := Lib.hid ((B4.out).trans (b5_.mono (B4.out).size))
    have Ox5 := Lib.hid ((Ox4.out).below b5_)
    have Oy5 := Lib.hid ((Oy4.out).below b5_)
    have Oo5 := Lib.hid ((Oo4.out).below b5_)
    have Ot5 := Lib.hid (o5_.weak (B4.out).size)
    go_wp2_with fail
    refine (iPermFixed_calls At ct ds _ (Ot5.out).rds (Ot5.out).len_le).mono ?_
    rintro e w6_ ⟨he, b6_⟩
    rw [FI.out] at he
    dsimp only at he
    subst he
    have B6 := Lib.hid ((B5.out).trans (b6_.mono (B5.out).size))
    have Ox6 := Lib.hid ((Ox5.out).below b6_)
    have Oy6 := Lib.hid ((Oy5.out).below b6_)
    have Oo6 := Lib.hid ((Oo5.out).below b6_)
    have Ot6 := Lib.hid ((Ot5.out).below b6_)
    go_wp2_with fail
    refine (iPermWord_calls Ax cx ts 54321 _ (Ox6.out).rds (Ox6.out).len_le (hT.below (B6.out) hT.lt).1).mono ?_
    rintro e w7_ ⟨he, b7_⟩
    rw [F4.out] at he
    dsimp only at he
    subst he
    have B7 := Lib.hid ((B6.out).trans (b7_.mono (B6.out).size))
    have Ox7 := Lib.hid ((Ox6.out).below b7_)
    have Oy7 := Lib.hid ((Oy6.out).below b7_)
    have Oo7 := Lib.hid ((Oo6.out).below b7_)
    have Ot7 := Lib.hid ((Ot6.out).below b7_)
    go_wp2_with fail
    refine (iCodeScores_calls 54321 _ (hT.below (B7.out) hT.lt).1).mono ?_
    rintro e w8_ ⟨v8_, he, o8_, b8_⟩
    rw [F5.out] at he o8_
    dsimp only at he o8_
    subst he
    obtain ⟨Ap, cp, rfl⟩ := o8_.slice
    have B8 := Lib.hid ((B7.out).trans (b8_.mono (B7.out).size))
    have Ox8 := Lib.hid ((Ox7.out).below b8_)
    have Oy8 := Lib.hid ((Oy7.out).below b8_)
    have Oo8 := Lib.hid ((Oo7.out).below b8_)
    have Ot8 := Lib.hid ((Ot7.out).below b8_)
    have Op8 := Lib.hid (o8_.weak (B7.out).size)
    go_wp2_with fail
    refine (iCodeScores_calls x _ (hT.below (B8.out) hT.lt).1).mono ?_
    rintro e w9_ ⟨v9_, he, o9_, b9_⟩
    rw [F6.out] at he o9_
    dsimp only at he o9_
    subst he
    obtain ⟨Aq, cq, rfl⟩ := o9_.slice
    have B9 := Lib.hid ((B8.out).trans (b9_.mono (B8.out).size))
    have Ox9 := Lib.hid ((Ox8.out).below b9_)
    have Oy9 := Lib.hid ((Oy8.out).below b9_)
    have Oo9 := Lib.hid ((Oo8.out).below b9_)
    have Ot9 := Lib.hid ((Ot8.out).below b9_)
    have Op9 := Lib.hid ((Op8.out).below b9_)
    have Oq9 := Lib.hid (o9_.weak (B8.out).size)
    go_wp2_with fail
    refine (iHexTimes_calls Ap cp sc n _ (Op9.out).rds (Op9.out).len_le (hT.below (B9.out) hT.lt).2.1).mono ?_
    rintro e w10_ ⟨v10_, he, o10_, b10_⟩
    rw [F7.out] at he o10_
    dsimp only at he o10_
    subst he
    obtain ⟨Ad, cd, rfl⟩ := o10_.slice
    have B10 := Lib.hid ((B9.out).trans (b10_.mono (B9.out).size))
    have Ox10 := Lib.hid ((Ox9.out).below b10_)
    have Oy10 := Lib.hid ((Oy9.out).below b10_)
    have Oo10 := Lib.hid ((Oo9.out).below b10_)
    have Ot10 := Lib.hid ((Ot9.out).below b10_)
    have Op10 := Lib.hid ((Op9.out).below b10_)
    have Oq10 := Lib.hid ((Oq9.out).below b10_)
    have Od10 := Lib.hid (o10_.weak (B9.out).size)
    go_wp2_with fail
    refine (iPermKeeps_calls Ax cx ts _ (Ox10.out).rds (Ox10.out).len_le (hT.below (B10.out) hT.lt)).mono ?_
    rintro e w11_ ⟨he, b11_⟩
    rw [F8.out] at he
    subst he
    have B11 := Lib.hid ((B10.out).trans (b11_.mono (B10.out).size))
    have Ox11 := Lib.hid ((Ox10.out).below b11_)
    have Oy11 := Lib.hid ((Oy10.out).below b11_)
    have Oo11 := Lib.hid ((Oo10.out).below b11_)
    have Ot11 := Lib.hid ((Ot10.out).below b11_)
    have Op11 := Lib.hid ((Op10.out).below b11_)
    have Oq11 := Lib.hid ((Oq10.out).below b11_)
    have Od11 := Lib.hid ((Od10.out).below b11_)
    go_wp2_with fail
    refine (sameInts_calls _ _ _ _ sx sx _ (Oq11.out).rds (Od11.out).rds (Oq11.out).len_le (Od11.out).len_le).mono ?_
    rintro e w' ⟨he, k12_, rfl⟩
    rw [eqL_refl] at he
    subst he
    have B12 := Lib.hid (below_drewN (B11.out) k12_)
    have Ox12 := Lib.hid ((Ox11.out).drewN k12_)
    have Oy12 := Lib.hid ((Oy11.out).drewN k12_)
    have Oo12 := Lib.hid ((Oo11.out).drewN k12_)
    have Ot12 := Lib.hid ((Ot11.out).drewN k12_)
    have Op12 := Lib.hid ((Op11.out).drewN k12_)
    have Oq12 := Lib.hid ((Oq11.out).drewN k12_)
    have Od12 := Lib.hid ((Od11.out).drewN k12_)
    go_wp2_with fail
    go_ret
    first | exact ⟨rfl, B12.out⟩ | exact ⟨rfl, by have hB := B12.out; simp only [World.drewN_drewN] at hB; exact hB⟩
  · have H := Lib.hid (show plScale n = ([], false) by simp [plScale, hb])
    clear hb
    go_wp2_with fail
    refine (iPermScale_calls n _ (hT.below (B0.out) hT.lt).2.1).mono ?_
    rintro e w1_ ⟨v1_, he, o1_, b1_⟩
    rw [H.out] at he o1_
    dsimp only at he o1_
    subst he
    obtain ⟨Ax, cx, rfl⟩ := o1_.slice
    have B1 := Lib.hid ((B0.out).trans (b1_.mono (B0.out).size))
    have Ox1 := Lib.hid (o1_.weak (B0.out).size)
    go_wp2_with fail
    refine (sPermScale_calls n _).mono ?_
    rintro e w2_ ⟨v2_, he, o2_, b2_⟩
    rw [H.out] at he o2_
    dsimp only at he o2_
    subst he
    obtain ⟨Ay, cy, rfl⟩ := o2_.slice
    have B2 := Lib.hid ((B1.out).trans (b2_.mono (B1.out).size))
    have Ox2 := Lib.hid ((Ox1.out).below b2_)
    have Oy2 := Lib.hid (o2_.weak (B1.out).size)
    go_wp2_with fail
    refine (sameInts_calls _ _ _ _ [] [] _ (Ox2.out).rds (Oy2.out).rds (Ox2.out).len_le (Oy2.out).len_le).mono ?_
    rintro e w' ⟨he, k3_, rfl⟩
    rw [eqL_refl] at he
    subst he
    have B3 := Lib.hid (below_drewN (B2.out) k3_)
    have Ox3 := Lib.hid ((Ox2.out).drewN k3_)
    have Oy3 := Lib.hid ((Oy2.out).drewN k3_)
    go_wp2_with fail
    refine (sameInts_calls _ _ _ _ [] [] _ (Ox3.out).rds (Oy3.out).rds (Ox3.out).len_le (Oy3.out).len_le).mono ?_
    rintro e w' ⟨he, k4_, rfl⟩
    rw [eqL_refl] at he
    subst he
    have B4 := Lib.hid (below_drewN (B3.out) k4_)
    have Ox4 := Lib.hid ((Ox3.out).drewN k4_)
    have Oy4 := Lib.hid ((Oy3.out).drewN k4_)
    go_wp2_with fail
    go_ret
    first | exact ⟨rfl, B4.out⟩ | exact ⟨rfl, by have hB := B4.out; simp only [World.drewN_drewN] at hB; exact hB⟩
end Go.Proofs.YtakefnfhjiodnaaDoor
