import Derived.Test.YtcfhfllcdliaoaaGreatDoorH4
import Derived.Test.YtcfhfllcdliaoaaGreatDoorH5
import Derived.Test.YtcfhfllcdliaoaaGreatDoorC42
import Derived.Test.YtcfhfllcdliaoaaGreatDoorH8
import Derived.Test.YtcfhfllcdliaoaaGreatDoorH2
import Derived.Test.YtcfhfllcdliaoaaGreatDoorC12
import Derived.Test.YtcfhfllcdliaoaaGreatDoorC28
import Derived.Test.YtcfhfllcdliaoaaGreatDoorC36
import Derived.Test.YtcfhfllcdliaoaaGreatDoorQ7
import Derived.Deep.RegionWith
import Derived.Lib.SplitLaws
import Derived.Lib.ItoaNum
/- What the lines of scripts do: the answers of chapter 10. -/
namespace Go.Proofs.YtcfhfllcdliaoaaGreatDoor
open Go.RowKit
open Go.PlainAid (bt get_bt bt_nonneg bt_le)
set_option linter.unusedVariables false
set_option linter.unusedSimpArgs false
attribute [local irreducible] octS cN octF syn nearL farI

/-! ### The words of lines, and of answers -/
def BA (l : List UInt8) : ByteArray := ⟨l.toArray⟩
def wShow : List UInt8 := [115, 104, 111, 119]
def wPlaces : List UInt8 := [112, 108, 97, 99, 101, 115]
def wWeight : List UInt8 := [119, 101, 105, 103, 104, 116]
def wScores : List UInt8 := [115, 99, 111, 114, 101, 115]
def wNear : List UInt8 := [110, 101, 97, 114]
def wSextet : List UInt8 := [115, 101, 120, 116, 101, 116]
def wMeet : List UInt8 := [109, 101, 101, 116]
def wIn : List UInt8 := [105, 110]
def wMend : List UInt8 := [109, 101, 110, 100]
def wRead : List UInt8 := [114, 101, 97, 100]
def wOctad : List UInt8 := [111, 99, 116, 97, 100]
def wSet : List UInt8 := [115, 101, 116]
def wAdd : List UInt8 := [97, 100, 100]
def wCode : List UInt8 := [99, 111, 100, 101]
def wLine : List UInt8 := [108, 105, 110, 101]
def wWord : List UInt8 := [119, 111, 114, 100, 32]
def aOk : List UInt8 := [111, 107]
def aNo : List UInt8 := [110, 111]
def aWhat : List UInt8 := [119, 104, 97, 116]
def aYes : List UInt8 := [121, 101, 115]
def aNot : List UInt8 := [110, 111, 116]
def aLong : List UInt8 := [116, 111, 111, 32, 108, 111, 110, 103, 10]

/-! ### Lines -/
def saidL (a : List Int × Bool) : List UInt8 := if a.2 then saidTo a.1 a.1.length else aNo
theorem saidS_eq (a : List Int × Bool) : saidS a = BA (saidL a ++ [10]) := by
  obtain ⟨xs, b⟩ := a
  cases b <;> rfl
/-- The answer of a line of one word that only asks. -/
def bareA (w : Int) (u : List UInt8) : List UInt8 :=
  if u = wShow then chrs w 27
  else if u = wPlaces then saidL (plI w.toNat, true)
  else if u = wWeight then saidL ([wt w], true)
  else if u = wScores then saidL (scoresI w, true)
  else if u = wNear then saidL ([cFar w], true)
  else if u = wSextet then saidL (sxA w)
  else if u = wMeet then saidL (oMeet w)
  else if u = wIn then (if cIn w then aYes else aNot)
  else aWhat
def rdA (s : ByteArray) : Int × Bool := match rdW s with
  | some t => (t, true)
  | none => (0, false)
theorem resW_rdA (s : ByteArray) : resW (rdW s) = .tuple #[.int .i64 (rdA s).1, .bool (rdA s).2] := by
  unfold rdA
  cases rdW s <;> rfl
def addA (w n : Int) : Int × Bool := if wordB n then (xorI w n, true) else (0, false)
/-- The number of a rest, or -1. -/
def oneA (r : ByteArray) : Int := if (numS r).2 then (numS r).1 else -1
/-- What a line with a rest makes: the word, whether the line is known, whether it does not fail. -/
def changeA (w : Int) (u : List UInt8) (r : ByteArray) : Int × Bool × Bool :=
  if u = wRead then ((rdA r).1, true, (rdA r).2)
  else if u = wOctad then (if (numsS r 5).2 then ((oThrough (numsS r 5).1).1, true, (oThrough (numsS r 5).1).2) else (w, true, false))
  else if u = wSet then (oneA r, true, wordB (oneA r))
  else if u = wAdd then ((addA w (oneA r)).1, true, (addA w (oneA r)).2)
  else if u = wCode then ((cOf (oneA r)).1, true, (cOf (oneA r)).2)
  else if u = wLine then ((lwI (oneA r)).1, true, (lwI (oneA r)).2)
  else (w, false, false)
def doneA (w : Int) (c : Int × Bool) : Int × List UInt8 := if c.2 then (c.1, aOk) else (w, aNo)
/-- The first space, or the end. -/
def spGo (l : ByteArray) : Nat → Nat → Nat
  | 0, i => i
  | f + 1, i => if bt l i = 32 then i else spGo l f (i + 1)
def spAt (l : ByteArray) : Nat := spGo l l.size 0
theorem spGo_here {l : ByteArray} {f i : Nat} (h : bt l i = 32) : spGo l (f + 1) i = i := by unfold spGo; rw [if_pos h]
theorem spGo_on {l : ByteArray} {f i : Nat} (h : ¬ bt l i = 32) : spGo l (f + 1) i = spGo l f (i + 1) := by
  conv => lhs; unfold spGo
  rw [if_neg h]
theorem spGo_le (l : ByteArray) : ∀ f i, i ≤ spGo l f i ∧ spGo l f i ≤ i + f
  | 0, i => ⟨Nat.le_refl _, Nat.le_refl _⟩
  | f + 1, i => by
    unfold spGo
    split
    · exact ⟨Nat.le_refl _, by omega⟩
    · have := spGo_le l f (i + 1); omega
theorem spAt_le (l : ByteArray) : spAt l ≤ l.size := by have := (spGo_le l l.size 0).2; unfold spAt; omega
/-- What a line does to the word, and what it answers. -/
def lineA (w : Int) (l : ByteArray) : Int × List UInt8 :=
  if spAt l = l.size then (if l = BA wMend then doneA w (cMend w) else (w, bareA w l.data.toList))
  else (if (changeA w (l.extract 0 (spAt l)).data.toList (l.extract (spAt l + 1) l.size)).2.1 then doneA w ((changeA w (l.extract 0 (spAt l)).data.toList (l.extract (spAt l + 1) l.size)).1, (changeA w (l.extract 0 (spAt l)).data.toList (l.extract (spAt l + 1) l.size)).2.2) else (w, aWhat))

/-! ### Scripts -/
def execGo (s : ByteArray) : Nat → Nat → Nat → Int → List UInt8 → Int × List UInt8
  | 0, _, _, w, out => (w, out)
  | f + 1, i, fr, w, out =>
    if bt s i = 10 then execGo s f (i + 1) (i + 1) (lineA w (s.extract fr i)).1 (out ++ ((lineA w (s.extract fr i)).2 ++ [10]))
    else execGo s f (i + 1) fr w out
theorem execGo_line {s : ByteArray} {f i fr : Nat} {w : Int} {out : List UInt8} (h : bt s i = 10) :
    execGo s (f + 1) i fr w out = execGo s f (i + 1) (i + 1) (lineA w (s.extract fr i)).1 (out ++ ((lineA w (s.extract fr i)).2 ++ [10])) := by
  conv => lhs; unfold execGo
  rw [if_pos h]
theorem execGo_on {s : ByteArray} {f i fr : Nat} {w : Int} {out : List UInt8} (h : ¬ bt s i = 10) :
    execGo s (f + 1) i fr w out = execGo s f (i + 1) fr w out := by
  conv => lhs; unfold execGo
  rw [if_neg h]
def execR (s : ByteArray) : Int × List UInt8 := execGo s s.size 0 0 0 []
def execA (s : ByteArray) : ByteArray := if 600 < s.size then BA aLong else BA ((execR s).2 ++ (wWord ++ (decN (execR s).1.toNat ++ [10])))

/-! ### Words stay words -/
theorem rdA_rng {s : ByteArray} (h : (rdA s).2 = true) : IsW (rdA s).1 := by
  unfold rdA at h ⊢
  cases hr : rdW s with
  | none => rw [hr] at h; exact absurd h (by decide)
  | some t =>
    show IsW t
    unfold rdW at hr
    split at hr
    · have := rdTo_inv s 27 (Nat.le_refl _) t hr
      exact ⟨this.1, this.2.1⟩
    · exact absurd hr (by simp)
theorem addA_rng {w n : Int} (hw : IsW w) (h : (addA w n).2 = true) : IsW (addA w n).1 := by
  unfold addA at h ⊢
  split
  · rename_i hn
    have := (wordB_iff n).1 hn
    exact ⟨xorI_nonneg _ _, xorI_le _ _ hw.2 this.2⟩
  · rename_i hn; rw [if_neg hn] at h; exact absurd h (by decide)
theorem cOf_rng (m : Int) : IsW (cOf m).1 := by
  unfold cOf
  rcases msgB m with _ | _
  · exact ⟨Int.le_refl _, by show (0 : Int) ≤ 16777215; decide⟩
  · exact codeOf_range m
theorem near_rng {w : Int} (h0 : 0 ≤ w) (h1 : w ≤ 16777215) : IsW ((nearL w).getD 0 0) := by
  have hl : 0 < (nearL w).length := by rcases nearL_len w h0 h1 with q | q <;> omega
  obtain ⟨m, _, h2, _⟩ := nearL_at w 0 hl
  rw [← h2]
  exact codeOf_range m
theorem cMend_rng (w : Int) : IsW (cMend w).1 := by
  unfold cMend
  by_cases h : (wordB w && decide (farI w ≤ 3)) = true
  · rw [if_pos h]
    rw [Bool.and_eq_true, wordB_iff] at h
    exact near_rng h.1.1 h.1.2
  · rw [if_neg h]
    exact ⟨Int.le_refl _, by show (0 : Int) ≤ 16777215; decide⟩
theorem lwI_rng (n : Int) : IsW (lwI n).1 := by
  rcases r_or n with ⟨r, rfl⟩ | h
  · rw [lwI_val]
    have := gT_rng r 23 (Nat.le_refl _)
    rw [gT_all r] at this
    exact this
  · unfold lwI
    rw [if_neg (by unfold isR; rw [decide_eq_true_eq]; omega)]
    exact ⟨Int.le_refl _, by show (0 : Int) ≤ 16777215; decide⟩
theorem changeA_rng {w : Int} (hw : IsW w) (u : List UInt8) (r : ByteArray) (h : (changeA w u r).2.2 = true) : IsW (changeA w u r).1 := by
  unfold changeA at h ⊢
  by_cases h0 : u = wRead
  · rw [if_pos h0] at h ⊢; exact rdA_rng h
  rw [if_neg h0] at h ⊢
  by_cases h1 : u = wOctad
  · rw [if_pos h1] at h ⊢
    by_cases h2 : (numsS r 5).2 = true
    · rw [if_pos h2]; exact oThrough_rng _
    · rw [if_neg h2]; exact hw
  rw [if_neg h1] at h ⊢
  by_cases h2 : u = wSet
  · rw [if_pos h2] at h ⊢; exact (wordB_iff _).1 h
  rw [if_neg h2] at h ⊢
  by_cases h3 : u = wAdd
  · rw [if_pos h3] at h ⊢; exact addA_rng hw h
  rw [if_neg h3] at h ⊢
  by_cases h4 : u = wCode
  · rw [if_pos h4]; exact cOf_rng _
  rw [if_neg h4] at h ⊢
  by_cases h5 : u = wLine
  · rw [if_pos h5]; exact lwI_rng _
  rw [if_neg h5]; exact hw
theorem lineA_rng {w : Int} (hw : IsW w) (l : ByteArray) : IsW (lineA w l).1 := by
  have hd : ∀ c : Int × Bool, (c.2 = true → IsW c.1) → IsW (doneA w c).1 := fun c h => by
    unfold doneA
    by_cases h2 : c.2 = true
    · rw [if_pos h2]; exact h h2
    · rw [if_neg h2]; exact hw
  unfold lineA
  by_cases h : spAt l = l.size
  · rw [if_pos h]
    by_cases hm : l = BA wMend
    · rw [if_pos hm]; exact hd _ fun _ => cMend_rng w
    · rw [if_neg hm]; exact hw
  · rw [if_neg h]
    have hc := changeA_rng hw (l.extract 0 (spAt l)).data.toList (l.extract (spAt l + 1) l.size)
    generalize changeA w (l.extract 0 (spAt l)).data.toList (l.extract (spAt l + 1) l.size) = c at *
    by_cases hk : c.2.1 = true
    · rw [if_pos hk]; exact hd _ hc
    · rw [if_neg hk]; exact hw
end Go.Proofs.YtcfhfllcdliaoaaGreatDoor
/- The model's lines of one word that only ask: l10Bare. -/
namespace Go.Proofs.YtcfhfllcdliaoaaGreatDoor
open Go.RowKit
open Go.PlainAid (bt get_bt bt_nonneg bt_le)
set_option linter.unusedVariables false
set_option linter.unusedSimpArgs false
attribute [local irreducible] octS cN octF syn

/-! ### The numbers that are told are small -/
def SmallL (xs : List Int) : Prop := xs.length ≤ 64 ∧ ∀ x ∈ xs, 0 ≤ x ∧ x < 1000000000
theorem SmallL.at_ {xs : List Int} (h : SmallL xs) (j : Nat) : 0 ≤ xs.getD j 0 ∧ xs.getD j 0 < 1000000000 := by
  rw [List.getD_eq_getElem?_getD]
  cases hj : xs[j]? with
  | none => exact ⟨Int.le_refl _, by decide⟩
  | some x => exact h.2 x (List.mem_of_getElem? hj)
theorem small_pl (n : Nat) : SmallL (plI n) := by
  refine ⟨by unfold plI; rw [List.length_map]; have := pl_len n; omega, fun x hx => ?_⟩
  unfold plI at hx
  obtain ⟨i, hi, rfl⟩ := List.mem_map.1 hx
  have := pl_lt n i hi
  omega
theorem small_one {x : Int} (h : 0 ≤ x ∧ x < 1000000000) : SmallL [x] := ⟨by simp, fun y hy => by rw [List.mem_singleton.1 hy]; exact h⟩
theorem small_wt (w : Int) : SmallL [wt w] := small_one (by have := wt_range w; omega)
theorem small_far {w : Int} (h : IsW w) : SmallL [cFar w] := small_one (by
  unfold cFar
  rw [if_pos ((wordB_iff w).2 h)]
  have := far_range w h.1 h.2
  omega)
theorem small_scores (w : Int) : SmallL (scoresI w) := by
  refine ⟨by simp [scoresI], fun x hx => ?_⟩
  have hd : ∀ c, 0 ≤ scoreI w c ∧ scoreI w c < 1000000000 := fun c => by have := scoreI_d w c; unfold IsD at this; omega
  simp only [scoresI, List.mem_cons, List.not_mem_nil, or_false] at hx
  rcases hx with rfl | rfl | rfl | rfl | rfl | rfl <;> exact hd _
theorem small_sx (w : Int) : SmallL (sxA w).1 := by
  unfold sxA
  split
  · rename_i h
    have ht := (tetB_iff w).1 h
    refine ⟨by show (sxOf w).length ≤ 64; rw [sxOf_len ht]; decide, fun x hx => ?_⟩
    have := ((sxOf_mem ht x).1 hx).1
    have h1 := this.1
    have h2 := this.2.1
    omega
  · exact ⟨by simp, fun x hx => absurd hx (by simp)⟩
theorem small_meet (w : Int) : SmallL (oMeet w).1 := by
  unfold oMeet
  split
  · refine ⟨by show (cnt9 w octS).length ≤ 64; rw [cnt9_len]; decide, fun x hx => ?_⟩
    unfold cnt9 at hx
    obtain ⟨k, hk, rfl⟩ := List.mem_map.1 hx
    have h1 : octS.countP (fun x => wt (andI x w) == (k : Int)) ≤ octS.length := List.countP_le_length
    have h2 := octS_len 4096 rfl
    omega
  · exact ⟨by simp, fun x hx => absurd hx (by simp)⟩

theorem said_own (v : Value) (a : List Int × Bool) (W : World) (g : Nat) (ho : Own W g v a.1) (hs : SmallL a.1) :
    Calls Tryz.prog 97 #[v, .bool a.2] W fun e w' => e = .returned (.string (BA (saidL a ++ [10]))) ∧ Below W.heap.size W w' := by
  obtain ⟨A, c, rfl⟩ := ho.slice
  obtain ⟨xs, b⟩ := a
  rw [← saidS_eq]
  exact l10Said_calls A c xs b W ho.rds hs.1 hs.at_
theorem ba_eq (u v : List UInt8) : (ByteArray.toList (BA u) == v) = decide (u = v) := by
  rw [ByteArray.toList_eq]
  show (u == v) = decide (u = v)
  by_cases h : u = v
  · rw [decide_eq_true h, h]; exact beq_self_eq_true v
  · rw [decide_eq_false h]; exact beq_eq_false_iff_ne.2 h
theorem ba_yes {u v : List UInt8} (h : u = v) : (ByteArray.toList (BA u) == v) = true := by rw [ba_eq, decide_eq_true h]
theorem ba_no {u v : List UInt8} (h : ¬ u = v) : (ByteArray.toList (BA u) == v) = false := by rw [ba_eq, decide_eq_false h]
theorem ba_end {P : Program} (a b : List UInt8) (h : a.length + b.length ≤ 100000) (W : World) : (Op.stringOp .add (BA a) (BA b)).run P W = .ok (.string (BA (a ++ b))) W := add_lists a b h W
theorem alloc_size (w : World) (o : Obj) : (w.alloc o).heap.size = w.heap.size + 1 := by unfold World.alloc; exact Array.size_push _
theorem own_one (w : World) (x : Int) : Own (w.alloc (.cells #[.int .i64 x] 3)) w.heap.size (.slice (some ⟨w.heap.size, 0, none⟩) 1 1) [x] :=
  ⟨rfl, .inr ⟨w.heap.size, 1, #[.int .i64 x], rfl, Nat.le_refl _, heap_alloc_new w _, Nat.le_refl _, by unfold maxLen; omega, rfl, rfl⟩⟩
theorem ba_ne {u v : List UInt8} (h : ¬ u = v) : ¬ ByteArray.toList (BA u) = v := fun e => by
  rw [ByteArray.toList_eq] at e
  exact h e
theorem bareA_eq (w : Int) (u : List UInt8) : bareA w u = if u = wShow then chrs w 27
  else if u = wPlaces then saidL (plI w.toNat, true)
  else if u = wWeight then saidL ([wt w], true)
  else if u = wScores then saidL (scoresI w, true)
  else if u = wNear then saidL ([cFar w], true)
  else if u = wSextet then saidL (sxA w)
  else if u = wMeet then saidL (oMeet w)
  else if u = wIn then (if cIn w then aYes else aNot)
  else aWhat := rfl
set_option maxHeartbeats 4000000 in
theorem l10Bare_calls (n : Int) (u : List UInt8) (w : World) (hn : IsW n) :
    Calls Tryz.prog 61 #[.int .i64 n, .string (BA u)] w fun e w' => e = .returned (.string (BA (bareA n u ++ [10]))) ∧ Below w.heap.size w w' := by
  have HR := Lib.hid (bareA_eq n u)
  generalize bareA n u = R at *
  by_cases h0 : u = wShow
  · have e0 : (ByteArray.toList (BA u) == ([115, 104, 111, 119] : List UInt8)) = true := ba_yes h0
    have HR := Lib.hid (HR.out.trans (if_pos h0))
    clear h0
    have hadd : ∀ W, (Op.stringOp .add (txt n) ⟨#[10]⟩).run Tryz.prog W = .ok (.string (BA (R ++ [10]))) W := fun W => by rw [HR.out]; exact add_lists (chrs n 27) [10] (by rw [chrs_len]; decide) W
    go_enter Tryz.func61, Tryz.ntmps61
    go_wp2_with fail
    refine (sWordText_ok _ _ hn).mono ?_
    rintro e w' ⟨rfl, rfl⟩
    go_wp2_with fail
    go_ret
    exact ⟨rfl, Below.refl _ _⟩
  have e0 : (ByteArray.toList (BA u) == ([115, 104, 111, 119] : List UInt8)) = false := ba_no h0
  have f0 : ¬ ByteArray.toList (BA u) = ([115, 104, 111, 119] : List UInt8) := ba_ne h0
  by_cases h1 : u = wPlaces
  · have e1 : (ByteArray.toList (BA u) == ([112, 108, 97, 99, 101, 115] : List UInt8)) = true := ba_yes h1
    have HR := Lib.hid (HR.out.trans ((if_neg h0).trans (if_pos h1)))
    clear h0 h1
    have HS := Lib.hid (fun v W g ho => said_own v (plI n.toNat, true) W g ho (small_pl n.toNat))
    rw [← HR.out] at HS
    go_enter Tryz.func61, Tryz.ntmps61
    go_wp2_with fail
    refine (l1Places_int _ _ hn.1).mono ?_
    rintro e w1 ⟨v, rfl, o1, b1⟩
    go_wp2_with fail
    refine (HS.out _ _ _ o1).mono ?_
    rintro e w2 ⟨rfl, b2⟩
    go_wp2_with fail
    go_ret
    exact ⟨rfl, b1.trans (b2.mono b1.size)⟩
  have e1 : (ByteArray.toList (BA u) == ([112, 108, 97, 99, 101, 115] : List UInt8)) = false := ba_no h1
  have f1 : ¬ ByteArray.toList (BA u) = ([112, 108, 97, 99, 101, 115] : List UInt8) := ba_ne h1
  by_cases h2 : u = wWeight
  · have e2 : (ByteArray.toList (BA u) == ([119, 101, 105, 103, 104, 116] : List UInt8)) = true := ba_yes h2
    have HR := Lib.hid (HR.out.trans ((if_neg h0).trans ((if_neg h1).trans (if_pos h2))))
    clear h0 h1 h2
    have HS := Lib.hid (fun W g ho => said_own (.slice (some ⟨g, 0, none⟩) 1 1) ([wt n], true) W g ho (small_wt n))
    rw [← HR.out] at HS
    go_enter Tryz.func61, Tryz.ntmps61
    go_wp2_with fail
    refine (l1Weight_calls _ _).mono ?_
    rintro e w1 ⟨rfl, rfl⟩
    have b1 := Lib.hid (Below.refl w.heap.size w)
    go_wp2_with fail
    refine (HS.out _ _ (own_one _ _)).mono ?_
    rintro e w2 ⟨rfl, b2⟩
    have b3 := Lib.hid ((b1.out.alloc b1.out.size _).trans (b2.mono (by have := b1.out.size; rw [alloc_size]; omega)))
    clear b2
    go_wp2_with fail
    go_ret
    exact ⟨rfl, b3.out⟩
  have e2 : (ByteArray.toList (BA u) == ([119, 101, 105, 103, 104, 116] : List UInt8)) = false := ba_no h2
  have f2 : ¬ ByteArray.toList (BA u) = ([119, 101, 105, 103, 104, 116] : List UInt8) := ba_ne h2
  by_cases h3 : u = wScores
  · have e3 : (ByteArray.toList (BA u) == ([115, 99, 111, 114, 101, 115] : List UInt8)) = true := ba_yes h3
    have HR := Lib.hid (HR.out.trans ((if_neg h0).trans ((if_neg h1).trans ((if_neg h2).trans (if_pos h3)))))
    clear h0 h1 h2 h3
    have HS := Lib.hid (fun v W g ho => said_own v (scoresI n, true) W g ho (small_scores n))
    rw [← HR.out] at HS
    go_enter Tryz.func61, Tryz.ntmps61
    go_wp2_with fail
    refine (l3Scores_calls _ _).mono ?_
    rintro e w1 ⟨v, rfl, o1, b1⟩
    go_wp2_with fail
    refine (HS.out _ _ _ o1).mono ?_
    rintro e w2 ⟨rfl, b2⟩
    go_wp2_with fail
    go_ret
    exact ⟨rfl, b1.trans (b2.mono b1.size)⟩
  have e3 : (ByteArray.toList (BA u) == ([115, 99, 111, 114, 101, 115] : List UInt8)) = false := ba_no h3
  have f3 : ¬ ByteArray.toList (BA u) = ([115, 99, 111, 114, 101, 115] : List UInt8) := ba_ne h3
  by_cases h4 : u = wNear
  · have e4 : (ByteArray.toList (BA u) == ([110, 101, 97, 114] : List UInt8)) = true := ba_yes h4
    have HR := Lib.hid (HR.out.trans ((if_neg h0).trans ((if_neg h1).trans ((if_neg h2).trans ((if_neg h3).trans (if_pos h4))))))
    clear h0 h1 h2 h3 h4
    have HS := Lib.hid (fun W g ho => said_own (.slice (some ⟨g, 0, none⟩) 1 1) ([cFar n], true) W g ho (small_far hn))
    rw [← HR.out] at HS
    go_enter Tryz.func61, Tryz.ntmps61
    go_wp2_with fail
    refine (sCodeFar_calls _ _).mono ?_
    rintro e w1 ⟨rfl, b1⟩
    have b1 := Lib.hid b1
    go_wp2_with fail
    refine (HS.out _ _ (own_one _ _)).mono ?_
    rintro e w2 ⟨rfl, b2⟩
    have b3 := Lib.hid ((b1.out.alloc b1.out.size _).trans (b2.mono (by have := b1.out.size; rw [alloc_size]; omega)))
    clear b2
    go_wp2_with fail
    go_ret
    exact ⟨rfl, b3.out⟩
  have e4 : (ByteArray.toList (BA u) == ([110, 101, 97, 114] : List UInt8)) = false := ba_no h4
  have f4 : ¬ ByteArray.toList (BA u) = ([110, 101, 97, 114] : List UInt8) := ba_ne h4
  by_cases h5 : u = wSextet
  · have e5 : (ByteArray.toList (BA u) == ([115, 101, 120, 116, 101, 116] : List UInt8)) = true := ba_yes h5
    have HR := Lib.hid (HR.out.trans ((if_neg h0).trans ((if_neg h1).trans ((if_neg h2).trans ((if_neg h3).trans ((if_neg h4).trans (if_pos h5)))))))
    clear h0 h1 h2 h3 h4 h5
    have HS := Lib.hid (fun v W g ho => said_own v (sxA n) W g ho (small_sx n))
    rw [← HR.out] at HS
    go_enter Tryz.func61, Tryz.ntmps61
    go_wp2_with fail
    refine (sSextetOf_calls _ _).mono ?_
    rintro e w1 ⟨v, rfl, o1, b1⟩
    go_wp2_with fail
    refine (HS.out _ _ _ o1).mono ?_
    rintro e w2 ⟨rfl, b2⟩
    go_wp2_with fail
    go_ret
    exact ⟨rfl, b1.trans (b2.mono b1.size)⟩
  have e5 : (ByteArray.toList (BA u) == ([115, 101, 120, 116, 101, 116] : List UInt8)) = false := ba_no h5
  have f5 : ¬ ByteArray.toList (BA u) = ([115, 101, 120, 116, 101, 116] : List UInt8) := ba_ne h5
  by_cases h6 : u = wMeet
  · have e6 : (ByteArray.toList (BA u) == ([109, 101, 101, 116] : List UInt8)) = true := ba_yes h6
    have HR := Lib.hid (HR.out.trans ((if_neg h0).trans ((if_neg h1).trans ((if_neg h2).trans ((if_neg h3).trans ((if_neg h4).trans ((if_neg h5).trans (if_pos h6))))))))
    clear h0 h1 h2 h3 h4 h5 h6
    have HS := Lib.hid (fun v W g ho => said_own v (oMeet n) W g ho (small_meet n))
    rw [← HR.out] at HS
    go_enter Tryz.func61, Tryz.ntmps61
    go_wp2_with fail
    refine (sOctadMeet_calls _ _).mono ?_
    rintro e w1 ⟨v, rfl, o1, b1⟩
    go_wp2_with fail
    refine (HS.out _ _ _ o1).mono ?_
    rintro e w2 ⟨rfl, b2⟩
    go_wp2_with fail
    go_ret
    exact ⟨rfl, b1.trans (b2.mono b1.size)⟩
  have e6 : (ByteArray.toList (BA u) == ([109, 101, 101, 116] : List UInt8)) = false := ba_no h6
  have f6 : ¬ ByteArray.toList (BA u) = ([109, 101, 101, 116] : List UInt8) := ba_ne h6
  by_cases h7 : u = wIn
  · have e7 : (ByteArray.toList (BA u) == ([105, 110] : List UInt8)) = true := ba_yes h7
    have HR := Lib.hid (HR.out.trans ((if_neg h0).trans ((if_neg h1).trans ((if_neg h2).trans ((if_neg h3).trans ((if_neg h4).trans ((if_neg h5).trans ((if_neg h6).trans (if_pos h7)))))))))
    clear h0 h1 h2 h3 h4 h5 h6 h7
    have HC := Lib.hid (fun W => sCodeIn_calls n W)
    rcases hc : cIn n with _ | _
    · rw [hc] at HR HC
      have HE := Lib.hid (show BA (R ++ [10]) = ⟨#[110, 111, 116, 10]⟩ by rw [HR.out]; rfl)
      clear hc
      go_enter Tryz.func61, Tryz.ntmps61
      go_wp2_with fail
      refine (HC.out _).mono ?_
      rintro e w1 ⟨rfl, b1⟩
      go_wp2_with fail
      go_ret
      exact ⟨by rw [HE.out]; rfl, b1⟩
    · rw [hc] at HR HC
      have HE := Lib.hid (show BA (R ++ [10]) = ⟨#[121, 101, 115, 10]⟩ by rw [HR.out]; rfl)
      clear hc
      go_enter Tryz.func61, Tryz.ntmps61
      go_wp2_with fail
      refine (HC.out _).mono ?_
      rintro e w1 ⟨rfl, b1⟩
      go_wp2_with fail
      go_ret
      exact ⟨by rw [HE.out]; rfl, b1⟩
  have e7 : (ByteArray.toList (BA u) == ([105, 110] : List UInt8)) = false := ba_no h7
  have f7 : ¬ ByteArray.toList (BA u) = ([105, 110] : List UInt8) := ba_ne h7
  have HE := Lib.hid (show BA (R ++ [10]) = ⟨#[119, 104, 97, 116, 10]⟩ by rw [HR.out.trans ((if_neg h0).trans ((if_neg h1).trans ((if_neg h2).trans ((if_neg h3).trans ((if_neg h4).trans ((if_neg h5).trans ((if_neg h6).trans ((if_neg h7).trans (rfl)))))))))]; rfl)
  clear h0 h1 h2 h3 h4 h5 h6 h7
  go_enter Tryz.func61, Tryz.ntmps61
  go_wp2_with fail
  go_ret
  exact ⟨by rw [HE.out]; rfl, Below.refl _ _⟩
end Go.Proofs.YtcfhfllcdliaoaaGreatDoor
/- The model's lines with a rest: l10Change. -/
namespace Go.Proofs.YtcfhfllcdliaoaaGreatDoor
open Go.RowKit
open Go.PlainAid (bt get_bt bt_nonneg bt_le)
set_option linter.unusedVariables false
set_option linter.unusedSimpArgs false
attribute [local irreducible] octS cN octF syn

/-! ### The parts of a rest, and their numbers -/
def pcs (s : ByteArray) : Nat → Nat → Nat → List ByteArray
  | 0, _, _ => []
  | f + 1, i, fr => if i = s.size ∨ bt s i = 32 then s.extract fr i :: pcs s f (i + 1) (i + 1) else pcs s f (i + 1) fr
def numFold (n : Int) : List ByteArray → List Int → List Int × Bool
  | [], out => (out, decide ((out.length : Int) = n))
  | p :: ps, out => if (numS p).2 = true then numFold n ps (out ++ [(numS p).1]) else (out, false)
theorem numsGo_fold (s : ByteArray) (n : Int) : ∀ f i fr out, numsGo s n f i fr out = numFold n (pcs s f i fr) out
  | 0, _, _, _ => rfl
  | f + 1, i, fr, out => by
    unfold numsGo pcs
    split
    · unfold numFold
      split
      · exact numsGo_fold s n f _ _ _
      · rfl
    · exact numsGo_fold s n f _ _ _
theorem numFold_yes (n : Int) : ∀ ps out, (numFold n ps out).2 = true → (∀ p ∈ ps, (numS p).2 = true) ∧ ((out.length + ps.length : Nat) : Int) = n ∧ (numFold n ps out).1 = out ++ ps.map fun p => (numS p).1
  | [], out, h => by
    unfold numFold at h
    rw [decide_eq_true_eq] at h
    exact ⟨fun p hp => absurd hp (by simp), h, by simp [numFold]⟩
  | p :: ps, out, h => by
    unfold numFold at h ⊢
    split at h
    · rename_i hp
      have := numFold_yes n ps _ h
      refine ⟨fun q hq => ?_, ?_, ?_⟩
      · rcases List.mem_cons.1 hq with rfl | hq
        · exact hp
        · exact this.1 q hq
      · rw [← this.2.1]; simp only [List.length_append, List.length_cons, List.length_nil]; omega
      · rw [if_pos hp, this.2.2]; simp
    · exact absurd h (by simp)
theorem numFold_of (n : Int) : ∀ ps out, (∀ p ∈ ps, (numS p).2 = true) → ((out.length + ps.length : Nat) : Int) = n → numFold n ps out = (out ++ ps.map fun p => (numS p).1, true)
  | [], out, _, h => by
    unfold numFold
    rw [decide_eq_true (by simpa using h)]
    simp
  | p :: ps, out, h, hn => by
    unfold numFold
    rw [if_pos (h p (List.mem_cons_self ..)), numFold_of n ps _ (fun q hq => h q (List.mem_cons_of_mem _ hq)) (by rw [← hn]; simp only [List.length_append, List.length_cons, List.length_nil]; omega)]
    simp
theorem pcs_last (s : ByteArray) : ∀ f i fr, f = s.size + 1 - i → i ≤ s.size → (∀ k, i ≤ k → k < s.size → ¬ bt s k = 32) → pcs s f i fr = [s.extract fr s.size]
  | 0, i, fr, hf, hi, _ => by omega
  | f + 1, i, fr, hf, hi, h => by
    unfold pcs
    by_cases e : i = s.size
    · rw [if_pos (Or.inl e), e, show f = 0 by omega]; rfl
    · rw [if_neg (by rintro (h1 | h1); exact e h1; exact h i (Nat.le_refl _) (by omega) h1)]
      exact pcs_last s f (i + 1) fr (by omega) (by omega) fun k hk => h k (by omega)
theorem pcs_pos (s : ByteArray) : ∀ f i fr, f = s.size + 1 - i → i ≤ s.size → 1 ≤ (pcs s f i fr).length
  | 0, i, fr, hf, hi => by omega
  | f + 1, i, fr, hf, hi => by
    unfold pcs
    split
    · simp
    · rename_i h
      exact pcs_pos s f (i + 1) fr (by omega) (by have : ¬ i = s.size := fun e => h (Or.inl e); omega)
theorem pcs_two (s : ByteArray) (k : Nat) (hk : k < s.size) (h32 : bt s k = 32) : ∀ f i fr, f = s.size + 1 - i → i ≤ k → 2 ≤ (pcs s f i fr).length
  | 0, i, fr, hf, hi => by omega
  | f + 1, i, fr, hf, hi => by
    unfold pcs
    split
    · have := pcs_pos s f (i + 1) (i + 1) (by omega) (by omega)
      simp only [List.length_cons]
      omega
    · rename_i h
      exact pcs_two s k hk h32 f (i + 1) fr (by omega) (by
        have : ¬ i = k := fun e => h (Or.inr (e ▸ h32))
        omega)
theorem ext_all (s : ByteArray) : s.extract 0 s.size = s := by simp
theorem numS_digits {s : ByteArray} (h : (numS s).2 = true) (k : Nat) (hk : k < s.size) : isDigB (bt s k) = true := by
  cases hb : isDigB (bt s k) with
  | true => rfl
  | false => rw [numS_bad k hk hb] at h; exact absurd h (by decide)
/-- One number: the rest as a whole. -/
theorem oneA_nums (r : ByteArray) : oneA r = if (numsS r 1).2 = true then (numsS r 1).1.getD 0 0 else -1 := by
  unfold oneA
  have hg : numsS r 1 = numFold 1 (pcs r (r.size + 1) 0 0) [] := numsGo_fold r 1 _ _ _ _
  by_cases h : (numS r).2 = true
  · have hp : pcs r (r.size + 1) 0 0 = [r] := by
      rw [pcs_last r _ 0 0 (by omega) (by omega) (fun k _ hk h32 => by
        have := numS_digits h k hk
        rw [h32] at this
        exact absurd this (by decide)), ext_all]
    rw [hg, hp, numFold_of 1 [r] [] (by simpa using h) rfl, if_pos h, if_pos rfl]
    simp
  · rw [if_neg h, if_neg]
    intro h2
    rw [hg] at h2
    obtain ⟨ha, hl, _⟩ := numFold_yes 1 _ _ h2
    by_cases hs : ∃ k, k < r.size ∧ bt r k = 32
    · obtain ⟨k, hk, h32⟩ := hs
      have := pcs_two r k hk h32 (r.size + 1) 0 0 (by omega) (by omega)
      simp only [List.length_nil] at hl
      omega
    · rw [pcs_last r _ 0 0 (by omega) (by omega) (fun k _ hk h32 => hs ⟨k, hk, h32⟩), ext_all] at ha
      exact h (ha r (List.mem_singleton.2 rfl))
theorem one_yes {r : ByteArray} (h : (numsS r 1).2 = true) : numsS r 1 = ([oneA r], true) := by
  have hg : numsS r 1 = numFold 1 (pcs r (r.size + 1) 0 0) [] := numsGo_fold r 1 _ _ _ _
  have h2 := h
  rw [hg] at h2
  obtain ⟨_, hl, hv⟩ := numFold_yes 1 _ _ h2
  have h1 : (numsS r 1).1.length = 1 := by
    rw [hg, hv, List.nil_append, List.length_map]
    simp only [List.length_nil] at hl
    omega
  obtain ⟨x, hx⟩ := List.length_eq_one_iff.1 h1
  have ho := oneA_nums r
  rw [if_pos h, hx] at ho
  rw [ho]
  exact Prod.ext hx h
theorem one_no {r : ByteArray} (h : (numsS r 1).2 = false) : oneA r = -1 := by
  rw [oneA_nums, if_neg (by rw [h]; decide)]
theorem sValid_calls (n : Int) (w : World) : Calls Tryz.prog 42 #[.int .i64 n] w fun e w' => e = .returned (.bool (wordB n)) ∧ w = w' := by
  rcases hb : wordB n with _ | _
  · exact sWordValid_no n w ((wordB_no n).1 hb)
  · have h := (wordB_iff n).1 hb
    exact sWordValid_ok n w h.1 h.2
theorem sAdd_calls (a n : Int) (w : World) (ha : IsW a) : Calls Tryz.prog 107 #[.int .i64 a, .int .i64 n] w fun e w' => e = .returned (.tuple #[.int .i64 (addA a n).1, .bool (addA a n).2]) ∧ w = w' := by
  unfold addA
  rcases hb : wordB n with _ | _
  · exact sWordAdd_no a n w (.inr ((wordB_no n).1 hb))
  · exact sWordAdd_ok a n w ha ((wordB_iff n).1 hb)
theorem changeA_eq (w : Int) (u : List UInt8) (r : ByteArray) : changeA w u r =
    if u = wRead then ((rdA r).1, true, (rdA r).2)
    else if u = wOctad then (if (numsS r 5).2 then ((oThrough (numsS r 5).1).1, true, (oThrough (numsS r 5).1).2) else (w, true, false))
    else if u = wSet then (oneA r, true, wordB (oneA r))
    else if u = wAdd then ((addA w (oneA r)).1, true, (addA w (oneA r)).2)
    else if u = wCode then ((cOf (oneA r)).1, true, (cOf (oneA r)).2)
    else if u = wLine then ((lwI (oneA r)).1, true, (lwI (oneA r)).2)
    else (w, false, false) := rfl
def chV (c : Int × Bool × Bool) : Value := .tuple #[.int .i64 c.1, .bool c.2.1, .bool c.2.2]
theorem numsS_len {r : ByteArray} {n : Int} (h : (numsS r n).2 = true) : ((numsS r n).1.length : Int) = n := by
  have hg : numsS r n = numFold n (pcs r (r.size + 1) 0 0) [] := numsGo_fold r n _ _ _ _
  have h2 := h
  rw [hg] at h2
  obtain ⟨_, hl, hv⟩ := numFold_yes n _ _ h2
  rw [hg, hv, List.nil_append, List.length_map]
  simpa using hl
set_option maxHeartbeats 4000000 in
/-- A line whose rest is one number, or none. -/
theorem change_one (n : Int) (u : List UInt8) (r : ByteArray) (w : World) (hn : IsW n) (hr : r.size ≤ 4096) (h0 : ¬ u = wRead) (h1 : ¬ u = wOctad) (C : Int × Bool × Bool)
    (HR : Hid (C = if u = wSet then (oneA r, true, wordB (oneA r)) else if u = wAdd then ((addA n (oneA r)).1, true, (addA n (oneA r)).2) else if u = wCode then ((cOf (oneA r)).1, true, (cOf (oneA r)).2) else if u = wLine then ((lwI (oneA r)).1, true, (lwI (oneA r)).2) else (n, false, false))) :
    Calls Tryz.prog 62 #[.int .i64 n, .string (BA u), .string r] w fun e w' => e = .returned (.tuple #[.int .i64 C.1, .bool C.2.1, .bool C.2.2]) ∧ Below w.heap.size w w' := by
  have HNum := Lib.hid (fun W => l10Numbers_calls r 1 W hr)
  have e0 : (ByteArray.toList (BA u) == ([114, 101, 97, 100] : List UInt8)) = false := ba_no h0
  have f0 : ¬ ByteArray.toList (BA u) = ([114, 101, 97, 100] : List UInt8) := ba_ne h0
  have e1 : (ByteArray.toList (BA u) == ([111, 99, 116, 97, 100] : List UInt8)) = false := ba_no h1
  have f1 : ¬ ByteArray.toList (BA u) = ([111, 99, 116, 97, 100] : List UInt8) := ba_ne h1
  clear h0 h1 hr
  obtain ⟨x, hx⟩ : ∃ x, x = oneA r := ⟨_, rfl⟩
  rw [← hx] at HR
  have HV := Lib.hid (fun W => sValid_calls x W)
  have HA := Lib.hid (fun W => sAdd_calls n x W hn)
  have HC := Lib.hid (fun W => sCodeOf_calls x W)
  have HL := Lib.hid (fun W => sLineWord_calls x W)
  by_cases h2 : u = wSet
  · have e2 : (ByteArray.toList (BA u) == ([115, 101, 116] : List UInt8)) = true := ba_yes h2
    have HR := Lib.hid (HR.out.trans (if_pos h2))
    clear h2
    rcases hb : (numsS r 1).2 with _ | _
    · have H1 := one_no hb
      rw [H1] at hx
      subst hx
      rw [hb] at HNum
      clear hb H1
      go_enter Tryz.func62, Tryz.ntmps62
      go_wp2_with fail
      refine (HNum.out _).mono ?_
      rintro e w1 ⟨v, rfl, o1, b1⟩
      have b1 := Lib.hid b1
      clear o1
      go_wp2_with fail
      refine (HV.out _).mono ?_
      rintro e w2 ⟨rfl, rfl⟩
      go_wp2_with fail
      go_ret3
      exact ⟨by rw [HR.out]; rfl, b1.out⟩
    · have H1 := one_yes hb
      rw [← hx] at H1
      rw [H1] at HNum
      clear hb H1 hx
      go_enter Tryz.func62, Tryz.ntmps62
      go_wp2_with fail
      refine (HNum.out _).mono ?_
      rintro e w1 ⟨v, rfl, o1, b1⟩
      obtain ⟨A, c, rfl⟩ := o1.slice
      obtain ⟨bb, o, hA, hb1, hc⟩ := o1.rds.at_ (j := 0) (by simp)
      subst hA
      have hc0 : w1.cell? ⟨bb, o, none⟩ = some (.int .i64 x) := hc
      clear hc
      have b1 := Lib.hid b1
      clear o1
      go_wp2_with fail
      refine (HV.out _).mono ?_
      rintro e w2 ⟨rfl, rfl⟩
      go_wp2_with fail
      go_ret3
      exact ⟨by rw [HR.out]; rfl, b1.out⟩
  have e2 : (ByteArray.toList (BA u) == ([115, 101, 116] : List UInt8)) = false := ba_no h2
  have f2 : ¬ ByteArray.toList (BA u) = ([115, 101, 116] : List UInt8) := ba_ne h2
  by_cases h3 : u = wAdd
  · have e3 : (ByteArray.toList (BA u) == ([97, 100, 100] : List UInt8)) = true := ba_yes h3
    have HR := Lib.hid (HR.out.trans ((if_neg h2).trans (if_pos h3)))
    clear h2 h3
    rcases hb : (numsS r 1).2 with _ | _
    · have H1 := one_no hb
      rw [H1] at hx
      subst hx
      rw [hb] at HNum
      clear hb H1
      go_enter Tryz.func62, Tryz.ntmps62
      go_wp2_with fail
      refine (HNum.out _).mono ?_
      rintro e w1 ⟨v, rfl, o1, b1⟩
      have b1 := Lib.hid b1
      clear o1
      go_wp2_with fail
      refine (HA.out _).mono ?_
      rintro e w2 ⟨rfl, rfl⟩
      go_wp2_with fail
      go_ret3
      exact ⟨by rw [HR.out]; rfl, b1.out⟩
    · have H1 := one_yes hb
      rw [← hx] at H1
      rw [H1] at HNum
      clear hb H1 hx
      go_enter Tryz.func62, Tryz.ntmps62
      go_wp2_with fail
      refine (HNum.out _).mono ?_
      rintro e w1 ⟨v, rfl, o1, b1⟩
      obtain ⟨A, c, rfl⟩ := o1.slice
      obtain ⟨bb, o, hA, hb1, hc⟩ := o1.rds.at_ (j := 0) (by simp)
      subst hA
      have hc0 : w1.cell? ⟨bb, o, none⟩ = some (.int .i64 x) := hc
      clear hc
      have b1 := Lib.hid b1
      clear o1
      go_wp2_with fail
      refine (HA.out _).mono ?_
      rintro e w2 ⟨rfl, rfl⟩
      go_wp2_with fail
      go_ret3
      exact ⟨by rw [HR.out]; rfl, b1.out⟩
  have e3 : (ByteArray.toList (BA u) == ([97, 100, 100] : List UInt8)) = false := ba_no h3
  have f3 : ¬ ByteArray.toList (BA u) = ([97, 100, 100] : List UInt8) := ba_ne h3
  by_cases h4 : u = wCode
  · have e4 : (ByteArray.toList (BA u) == ([99, 111, 100, 101] : List UInt8)) = true := ba_yes h4
    have HR := Lib.hid (HR.out.trans ((if_neg h2).trans ((if_neg h3).trans (if_pos h4))))
    clear h2 h3 h4
    rcases hb : (numsS r 1).2 with _ | _
    · have H1 := one_no hb
      rw [H1] at hx
      subst hx
      rw [hb] at HNum
      clear hb H1
      go_enter Tryz.func62, Tryz.ntmps62
      go_wp2_with fail
      refine (HNum.out _).mono ?_
      rintro e w1 ⟨v, rfl, o1, b1⟩
      have b1 := Lib.hid b1
      clear o1
      go_wp2_with fail
      refine (HC.out _).mono ?_
      rintro e w2 ⟨rfl, b2⟩
      have b1 := Lib.hid (b1.out.trans (b2.mono b1.out.size))
      clear b2
      go_wp2_with fail
      go_ret3
      exact ⟨by rw [HR.out]; rfl, b1.out⟩
    · have H1 := one_yes hb
      rw [← hx] at H1
      rw [H1] at HNum
      clear hb H1 hx
      go_enter Tryz.func62, Tryz.ntmps62
      go_wp2_with fail
      refine (HNum.out _).mono ?_
      rintro e w1 ⟨v, rfl, o1, b1⟩
      obtain ⟨A, c, rfl⟩ := o1.slice
      obtain ⟨bb, o, hA, hb1, hc⟩ := o1.rds.at_ (j := 0) (by simp)
      subst hA
      have hc0 : w1.cell? ⟨bb, o, none⟩ = some (.int .i64 x) := hc
      clear hc
      have b1 := Lib.hid b1
      clear o1
      go_wp2_with fail
      refine (HC.out _).mono ?_
      rintro e w2 ⟨rfl, b2⟩
      have b1 := Lib.hid (b1.out.trans (b2.mono b1.out.size))
      clear b2
      go_wp2_with fail
      go_ret3
      exact ⟨by rw [HR.out]; rfl, b1.out⟩
  have e4 : (ByteArray.toList (BA u) == ([99, 111, 100, 101] : List UInt8)) = false := ba_no h4
  have f4 : ¬ ByteArray.toList (BA u) = ([99, 111, 100, 101] : List UInt8) := ba_ne h4
  by_cases h5 : u = wLine
  · have e5 : (ByteArray.toList (BA u) == ([108, 105, 110, 101] : List UInt8)) = true := ba_yes h5
    have HR := Lib.hid (HR.out.trans ((if_neg h2).trans ((if_neg h3).trans ((if_neg h4).trans (if_pos h5)))))
    clear h2 h3 h4 h5
    rcases hb : (numsS r 1).2 with _ | _
    · have H1 := one_no hb
      rw [H1] at hx
      subst hx
      rw [hb] at HNum
      clear hb H1
      go_enter Tryz.func62, Tryz.ntmps62
      go_wp2_with fail
      refine (HNum.out _).mono ?_
      rintro e w1 ⟨v, rfl, o1, b1⟩
      have b1 := Lib.hid b1
      clear o1
      go_wp2_with fail
      refine (HL.out _).mono ?_
      rintro e w2 ⟨rfl, b2⟩
      have b1 := Lib.hid (b1.out.trans (b2.mono b1.out.size))
      clear b2
      go_wp2_with fail
      go_ret3
      exact ⟨by rw [HR.out]; rfl, b1.out⟩
    · have H1 := one_yes hb
      rw [← hx] at H1
      rw [H1] at HNum
      clear hb H1 hx
      go_enter Tryz.func62, Tryz.ntmps62
      go_wp2_with fail
      refine (HNum.out _).mono ?_
      rintro e w1 ⟨v, rfl, o1, b1⟩
      obtain ⟨A, c, rfl⟩ := o1.slice
      obtain ⟨bb, o, hA, hb1, hc⟩ := o1.rds.at_ (j := 0) (by simp)
      subst hA
      have hc0 : w1.cell? ⟨bb, o, none⟩ = some (.int .i64 x) := hc
      clear hc
      have b1 := Lib.hid b1
      clear o1
      go_wp2_with fail
      refine (HL.out _).mono ?_
      rintro e w2 ⟨rfl, b2⟩
      have b1 := Lib.hid (b1.out.trans (b2.mono b1.out.size))
      clear b2
      go_wp2_with fail
      go_ret3
      exact ⟨by rw [HR.out]; rfl, b1.out⟩
  have e5 : (ByteArray.toList (BA u) == ([108, 105, 110, 101] : List UInt8)) = false := ba_no h5
  have f5 : ¬ ByteArray.toList (BA u) = ([108, 105, 110, 101] : List UInt8) := ba_ne h5
  have HR := Lib.hid (HR.out.trans ((if_neg h2).trans ((if_neg h3).trans ((if_neg h4).trans ((if_neg h5).trans (rfl))))))
  clear h2 h3 h4 h5
  rcases hb : (numsS r 1).2 with _ | _
  · rw [hb] at HNum
    clear hb hx
    go_enter Tryz.func62, Tryz.ntmps62
    go_wp2_with fail
    refine (HNum.out _).mono ?_
    rintro e w1 ⟨v, rfl, o1, b1⟩
    have b1 := Lib.hid b1
    clear o1
    go_wp2_with fail
    go_ret3
    exact ⟨by rw [HR.out]; rfl, b1.out⟩
  · have H1 := one_yes hb
    rw [← hx] at H1
    rw [H1] at HNum
    clear hb H1 hx
    go_enter Tryz.func62, Tryz.ntmps62
    go_wp2_with fail
    refine (HNum.out _).mono ?_
    rintro e w1 ⟨v, rfl, o1, b1⟩
    obtain ⟨A, c, rfl⟩ := o1.slice
    obtain ⟨bb, o, hA, hb1, hc⟩ := o1.rds.at_ (j := 0) (by simp)
    subst hA
    have hc0 : w1.cell? ⟨bb, o, none⟩ = some (.int .i64 x) := hc
    clear hc
    have b1 := Lib.hid b1
    clear o1
    go_wp2_with fail
    go_ret3
    exact ⟨by rw [HR.out]; rfl, b1.out⟩
set_option maxHeartbeats 2000000 in
theorem l10Change_calls (n : Int) (u : List UInt8) (r : ByteArray) (w : World) (hn : IsW n) (hr : r.size ≤ 4096) :
    Calls Tryz.prog 62 #[.int .i64 n, .string (BA u), .string r] w fun e w' => e = .returned (.tuple #[.int .i64 (changeA n u r).1, .bool (changeA n u r).2.1, .bool (changeA n u r).2.2]) ∧ Below w.heap.size w w' := by
  have HR := Lib.hid (changeA_eq n u r)
  generalize changeA n u r = C at *
  by_cases h0 : u = wRead
  · have e0 : (ByteArray.toList (BA u) == ([114, 101, 97, 100] : List UInt8)) = true := ba_yes h0
    have HR := Lib.hid (HR.out.trans (if_pos h0))
    have HW := Lib.hid (fun W => sWordRead_calls r W (by unfold maxLen; omega))
    rw [resW_rdA] at HW
    clear h0 hr
    go_enter Tryz.func62, Tryz.ntmps62
    go_wp2_with fail
    refine (HW.out _).mono ?_
    rintro e w' ⟨rfl, rfl⟩
    go_wp2_with fail
    go_ret3
    exact ⟨by rw [HR.out]; rfl, Below.refl _ _⟩
  by_cases h1 : u = wOctad
  · have e0 : (ByteArray.toList (BA u) == ([114, 101, 97, 100] : List UInt8)) = false := ba_no h0
    have f0 : ¬ ByteArray.toList (BA u) = ([114, 101, 97, 100] : List UInt8) := ba_ne h0
    have e1 : (ByteArray.toList (BA u) == ([111, 99, 116, 97, 100] : List UInt8)) = true := ba_yes h1
    have HR := Lib.hid (HR.out.trans ((if_neg h0).trans (if_pos h1)))
    have HN := Lib.hid (fun W => l10Numbers_calls r 5 W hr)
    clear h0 h1 hr
    rcases hb : (numsS r 5).2 with _ | _
    · rw [hb] at HN HR
      clear hb
      go_enter Tryz.func62, Tryz.ntmps62
      go_wp2_with fail
      refine (HN.out _).mono ?_
      rintro e w1 ⟨v, rfl, o1, b1⟩
      clear o1
      go_wp2_with fail
      go_ret3
      exact ⟨by rw [HR.out]; rfl, b1⟩
    · rw [hb] at HN HR
      have HL := Lib.hid (numsS_len hb)
      generalize hX : (numsS r 5).1 = xs at *
      clear hb hX
      have HT := Lib.hid (fun A c W ha => sOctadThrough_calls A c xs W ha (by have := HL.out; unfold maxLen; omega))
      go_enter Tryz.func62, Tryz.ntmps62
      go_wp2_with fail
      refine (HN.out _).mono ?_
      rintro e w1 ⟨v, rfl, o1, b1⟩
      obtain ⟨A, c, rfl⟩ := o1.slice
      go_wp2_with fail
      refine (HT.out _ _ _ o1.rds).mono ?_
      rintro e w2 ⟨rfl, b2⟩
      have b3 := Lib.hid (b1.trans (b2.mono b1.size))
      clear b2 o1
      go_wp2_with fail
      go_ret3
      exact ⟨by rw [HR.out]; rfl, b3.out⟩
  exact change_one n u r w hn hr h0 h1 C (Lib.hid (HR.out.trans ((if_neg h0).trans (if_neg h1))))
end Go.Proofs.YtcfhfllcdliaoaaGreatDoor
/- The model's lines: l10Line. -/
namespace Go.Proofs.YtcfhfllcdliaoaaGreatDoor
open Go.RowKit
open Go.PlainAid (bt get_bt bt_nonneg bt_le)
set_option linter.unusedVariables false
set_option linter.unusedSimpArgs false
attribute [local irreducible] octS cN octF syn

theorem lineA_bare {n : Int} {l : ByteArray} (h : spAt l = l.size) (hm : ¬ l.data.toList = wMend) : lineA n l = (n, bareA n l.data.toList) := by
  unfold lineA
  rw [if_pos h, if_neg]
  intro e
  exact hm (congrArg (fun b : ByteArray => b.data.toList) e)
theorem lineA_mend {n : Int} {l : ByteArray} (h : spAt l = l.size) (hm : l.data.toList = wMend) : lineA n l = doneA n (cMend n) := by
  unfold lineA
  rw [if_pos h, if_pos (show l = BA wMend by rw [← hm]; rfl)]
theorem lineA_rest {n : Int} {l : ByteArray} (h : ¬ spAt l = l.size) {c : Int × Bool × Bool} (hc : changeA n (l.extract 0 (spAt l)).data.toList (l.extract (spAt l + 1) l.size) = c) : lineA n l = if c.2.1 then doneA n (c.1, c.2.2) else (n, aWhat) := by
  unfold lineA
  rw [if_neg h, hc]
theorem ext_size_le (l : ByteArray) (a b : Nat) : (l.extract a b).size ≤ l.size := by rw [ByteArray.size_extract]; omega
set_option maxHeartbeats 4000000 in
theorem l10Line_calls (n : Int) (l : ByteArray) (w : World) (hn : IsW n) (hl : l.size ≤ 4096) :
    Calls Tryz.prog 37 #[.int .i64 n, .string l] w fun e w' => e = .returned (.tuple #[.int .i64 (lineA n l).1, .string (BA ((lineA n l).2 ++ [10]))]) ∧ Below w.heap.size w w' := by
  have hget := get_bt l
  have HBare := Lib.hid (fun W => l10Bare_calls n l.data.toList W hn)
  rw [show BA l.data.toList = l from rfl] at HBare
  have HMend := Lib.hid (fun W => sCodeMend_calls n W)
  have H0 := Lib.hid (show spGo l (l.size - 0) 0 = spAt l from rfl)
  have HEnd := Lib.hid (fun h hm => lineA_bare (n := n) (l := l) h hm)
  have HM := Lib.hid (fun h hm => lineA_mend (n := n) (l := l) h hm)
  have HRest := Lib.hid (fun h c hc => lineA_rest (n := n) (l := l) h (c := c) hc)
  have HChg := Lib.hid (fun W => l10Change_calls n (l.extract 0 (spAt l)).data.toList (l.extract (spAt l + 1) l.size) W hn (Nat.le_trans (ext_size_le l _ _) hl))
  rw [show BA (l.extract 0 (spAt l)).data.toList = l.extract 0 (spAt l) from rfl] at HChg
  obtain ⟨c, hc⟩ : ∃ c, changeA n (l.extract 0 (spAt l)).data.toList (l.extract (spAt l + 1) l.size) = c := ⟨_, rfl⟩
  rw [hc] at HChg
  have HC := Lib.hid hc
  have HSp := Lib.hid (spAt_le l)
  clear hc
  generalize lineA n l = A at *
  generalize spAt l = sp at *
  go_enter Tryz.func37, Tryz.ntmps37
  go_wp2_with fail
  go_loopw [6] (fun i wr => ∃ k : Nat, k ≤ l.size ∧ i = .int .i64 (k : Int) ∧ wr = w ∧ Hid (spGo l (l.size - k) k = sp)) (fun i _ => l.size - (intOf i).toNat)
  case atStart => exact ⟨0, by omega, rfl, rfl, H0⟩
  case round =>
    obtain ⟨k, hk, rfl, rfl, hs⟩ := hrel
    by_cases hlt : k < l.size
    · have hk1 : (k : Int) < (l.size : Int) := by omega
      have hk0 : (0 : Int) ≤ (k : Int) := by omega
      have hf : l.size - k = (l.size - (k + 1)) + 1 := by omega
      rw [hf] at hs
      by_cases hb : bt l k = 32
      · have hsp := Lib.hid ((spGo_here hb).symm.trans hs.out)
        have e2 : (bt l k == 32) = true := by simp [hb]
        have e3 : (bt l k != 32) = false := by simp [hb]
        have e4 : ((k : Int) == (l.size : Int)) = false := by simp; omega
        obtain ⟨n1, hn1⟩ : ∃ n1, n1 = k + 1 := ⟨_, rfl⟩
        have e5 : (0 : Int) ≤ (n1 : Int) := by omega
        have e6 : (n1 : Int) ≤ (l.size : Int) := by omega
        have e7 : wrap64 ((k : Int) + 1) = (n1 : Int) := by unfold wrap64; omega
        have e9 : IntKind.i64.wrap ((k : Int) + 1) = (n1 : Int) := by rw [IntKind.wrap_i64]; omega
        have e8 : (k : Int) ≤ (l.size : Int) := by omega
        have HR := Lib.hid (HRest.out (by have := hsp.out; omega) c HC.out)
        rw [← hsp.out, ← hn1] at HChg
        clear hn1 hb hs hf HRest HC HEnd HM HBare HMend
        obtain ⟨m, kn, ok⟩ := c
        rcases kn with _ | _
        · rcases ok with _ | _
          · have HA := Lib.hid (show A = (n, aWhat) from HR.out)
            clear HR
            go_wp2_with fail
            go_region_with (go_at_call 62; refine (HChg.out _).mono ?_; rintro e w1 ⟨rfl, b1⟩)
            go_wp2_with fail
            go_ret2
            exact ⟨by rw [HA.out]; rfl, (Below.refl _ _).drew.trans b1⟩
          · have HA := Lib.hid (show A = (n, aWhat) from HR.out)
            clear HR
            go_wp2_with fail
            go_region_with (go_at_call 62; refine (HChg.out _).mono ?_; rintro e w1 ⟨rfl, b1⟩)
            go_wp2_with fail
            go_ret2
            exact ⟨by rw [HA.out]; rfl, (Below.refl _ _).drew.trans b1⟩
        · rcases ok with _ | _
          · have HA := Lib.hid (show A = (n, aNo) from HR.out)
            clear HR
            go_wp2_with fail
            go_region_with (go_at_call 62; refine (HChg.out _).mono ?_; rintro e w1 ⟨rfl, b1⟩)
            go_wp2_with fail
            go_ret2
            exact ⟨by rw [HA.out]; rfl, (Below.refl _ _).drew.trans b1⟩
          · have HA := Lib.hid (show A = (m, aOk) from HR.out)
            clear HR
            go_wp2_with fail
            go_region_with (go_at_call 62; refine (HChg.out _).mono ?_; rintro e w1 ⟨rfl, b1⟩)
            go_wp2_with fail
            go_ret2
            exact ⟨by rw [HA.out]; rfl, (Below.refl _ _).drew.trans b1⟩
      · have hsp := Lib.hid ((spGo_on hb).symm.trans hs.out)
        have e2 : (bt l k == 32) = false := by simp [hb]
        have e3 : (bt l k != 32) = true := by simp [hb]
        clear hb hs hf
        go_wp2_with fail
        go_roundw
        case rel => exact ⟨k + 1, by omega, by go_num, by first | exact rfl | trivial, hsp⟩
        case measure => simp [intOf]; omega
    · obtain rfl : k = l.size := by omega
      have hsp : sp = l.size := by
        have := hs.out
        rw [Nat.sub_self] at this
        exact this.symm
      have hlt2 : ¬ ((l.size : Int) < (l.size : Int)) := by omega
      have e4 : ((l.size : Int) == (l.size : Int)) = true := by simp
      by_cases hm : l.data.toList = wMend
      · have e1 : (ByteArray.toList l == ([109, 101, 110, 100] : List UInt8)) = true := ba_yes (u := l.data.toList) hm
        have HR := Lib.hid (HM.out hsp hm)
        clear hm hsp hs
        rcases hb : (cMend n).2 with _ | _
        · rw [hb] at HMend
          have HR2 := Lib.hid (show A = (n, aNo) by rw [HR.out]; unfold doneA; rw [hb]; rfl)
          clear hb
          go_wp2_with fail
          refine (HMend.out _).mono ?_
          rintro e w1 ⟨rfl, b1⟩
          go_wp2_with fail
          go_ret2
          exact ⟨by rw [HR2.out]; rfl, b1⟩
        · rw [hb] at HMend
          have HR2 := Lib.hid (show A = ((cMend n).1, aOk) by rw [HR.out]; unfold doneA; rw [hb]; rfl)
          clear hb
          go_wp2_with fail
          refine (HMend.out _).mono ?_
          rintro e w1 ⟨rfl, b1⟩
          go_wp2_with fail
          go_ret2
          exact ⟨by rw [HR2.out]; rfl, b1⟩
      · have e1 : (ByteArray.toList l == ([109, 101, 110, 100] : List UInt8)) = false := ba_no (u := l.data.toList) hm
        have f1 : ¬ ByteArray.toList l = ([109, 101, 110, 100] : List UInt8) := ba_ne (u := l.data.toList) hm
        have HR := Lib.hid (HEnd.out hsp hm)
        clear hm hsp hs
        go_wp2_with fail
        refine (HBare.out _).mono ?_
        rintro e w1 ⟨rfl, b1⟩
        go_wp2_with fail
        go_ret2
        exact ⟨by rw [HR.out]; rfl, b1⟩
end Go.Proofs.YtcfhfllcdliaoaaGreatDoor
/- Scripts by their lines: what a script does is done line by line. -/
namespace Go.Proofs.YtcfhfllcdliaoaaGreatDoor
open Go.RowKit
open Go.PlainAid (bt get_bt bt_nonneg bt_le)
set_option linter.unusedVariables false
set_option linter.unusedSimpArgs false
attribute [local irreducible] octS cN octF syn

/-! ### Parts of a text at a byte -/
/-- The parts that end with the byte c (what stands behind the last one is left out). -/
def partsAt (c : UInt8) : List UInt8 → List UInt8 → List (List UInt8)
  | [], _ => []
  | x :: t, cur => if x = c then cur :: partsAt c t [] else partsAt c t (cur ++ [x])
/-- What stands behind the last one. -/
def tailAt (c : UInt8) : List UInt8 → List UInt8 → List UInt8
  | [], cur => cur
  | x :: t, cur => if x = c then tailAt c t [] else tailAt c t (cur ++ [x])
def runL (st : Int × List UInt8) (l : List UInt8) : Int × List UInt8 := ((lineA st.1 (BA l)).1, st.2 ++ ((lineA st.1 (BA l)).2 ++ [10]))
theorem len_list (s : ByteArray) : s.data.toList.length = s.size := rfl
theorem lt_list {s : ByteArray} {i : Nat} (h : i < s.size) : i < s.data.toList.length := h
theorem partsAt_cons (c x : UInt8) (t cur : List UInt8) : partsAt c (x :: t) cur = if x = c then cur :: partsAt c t [] else partsAt c t (cur ++ [x]) := rfl
theorem tailAt_cons (c x : UInt8) (t cur : List UInt8) : tailAt c (x :: t) cur = if x = c then tailAt c t [] else tailAt c t (cur ++ [x]) := rfl
theorem BA_list (s : ByteArray) : BA s.data.toList = s := rfl
theorem bt_at (s : ByteArray) (i : Nat) (h : i < s.size) : bt s i = ((s.data.toList[i]'(lt_list h)).toNat : Int) := by
  rw [← get_bt s i h]
  rfl
theorem ext_list (s : ByteArray) (a b : Nat) : (s.extract a b).data.toList = (s.data.toList.drop a).take (b - a) := by
  rw [ByteArray.data_extract, Array.toList_extract, List.extract_eq_take_drop]
theorem ext_snoc (s : ByteArray) (fr i : Nat) (h : fr ≤ i) (hi : i < s.size) : (s.extract fr (i + 1)).data.toList = (s.extract fr i).data.toList ++ [s.data.toList[i]'(lt_list hi)] := by
  have hl : i < s.data.toList.length := lt_list hi
  rw [ext_list, ext_list, show i + 1 - fr = (i - fr) + 1 by omega, List.take_succ_eq_append_getElem (by rw [List.length_drop]; omega)]
  congr 2
  rw [List.getElem_drop]
  congr 1
  omega
theorem byte_eq (b c : UInt8) : ((b.toNat : Nat) : Int) = ((c.toNat : Nat) : Int) ↔ b = c := by
  constructor
  · intro h; exact UInt8.toNat_inj.1 (by omega)
  · rintro rfl; rfl
theorem execGo_parts (s : ByteArray) : ∀ f i fr w out, f = s.size - i → fr ≤ i → i ≤ s.size →
    execGo s f i fr w out = (partsAt 10 (s.data.toList.drop i) (s.extract fr i).data.toList).foldl runL (w, out)
  | 0, i, fr, w, out, hf, hr, hi => by
    rw [List.drop_eq_nil_of_le (by rw [len_list]; omega)]
    rfl
  | f + 1, i, fr, w, out, hf, hr, hi => by
    have hlt : i < s.size := by omega
    have hl : i < s.data.toList.length := lt_list hlt
    rw [List.drop_eq_getElem_cons hl, partsAt_cons]
    by_cases h : bt s i = 10
    · have hb : s.data.toList[i] = 10 := (byte_eq _ 10).1 (by rw [← bt_at s i hlt, h]; rfl)
      rw [execGo_line h, if_pos hb, List.foldl_cons, execGo_parts s f (i + 1) (i + 1) _ _ (by omega) (Nat.le_refl _) (by omega)]
      rw [show (s.extract (i + 1) (i + 1)).data.toList = [] by rw [ext_list]; simp]
      rfl
    · have hb : ¬ s.data.toList[i] = 10 := fun e => h (by rw [bt_at s i hlt, e]; rfl)
      rw [execGo_on h, if_neg hb, execGo_parts s f (i + 1) fr _ _ (by omega) (by omega) (by omega), ext_snoc s fr i hr hlt]
theorem execR_parts (s : ByteArray) : execR s = (partsAt 10 s.data.toList []).foldl runL (0, []) := by
  unfold execR
  rw [execGo_parts s s.size 0 0 0 [] (by omega) (Nat.le_refl _) (by omega), List.drop_zero, show (s.extract 0 0).data.toList = [] by rw [ext_list]; simp]

/-! ### Texts that end with the byte -/
def EndsAt (c : UInt8) (a : List UInt8) : Prop := a = [] ∨ ∃ b, a = b ++ [c]
theorem partsAt_app (c : UInt8) (b : List UInt8) : ∀ a cur, ((∃ d, a = d ++ [c]) ∨ (a = [] ∧ cur = [])) → partsAt c (a ++ b) cur = partsAt c a cur ++ partsAt c b []
  | [], cur, h => by
    rcases h with ⟨d, hd⟩ | ⟨_, rfl⟩
    · exact absurd hd (by simp)
    · rfl
  | x :: t, cur, h => by
    have ht : (∃ d, t = d ++ [c]) ∨ (t = [] ∧ x = c) := by
      rcases h with ⟨d, hd⟩ | ⟨h, _⟩
      · cases d with
        | nil => simp at hd; exact .inr ⟨hd.2, hd.1⟩
        | cons y d => simp at hd; exact .inl ⟨d, hd.2⟩
      · exact absurd h (by simp)
    rw [List.cons_append, partsAt_cons, partsAt_cons]
    split
    · rw [partsAt_app c b t [] (by rcases ht with h | h; exact .inl h; exact .inr ⟨h.1, rfl⟩)]
      rfl
    · rename_i hx
      rcases ht with h | h
      · exact partsAt_app c b t _ (.inl h)
      · exact absurd h.2 hx
theorem partsAt_none (c : UInt8) : ∀ a cur, (∀ x ∈ a, x ≠ c) → partsAt c a cur = []
  | [], _, _ => rfl
  | x :: t, cur, h => by
    rw [partsAt_cons, if_neg (h x (List.mem_cons_self ..))]
    exact partsAt_none c t _ fun y hy => h y (List.mem_cons_of_mem _ hy)
theorem partsAt_line (c : UInt8) (b : List UInt8) : ∀ a cur, (∀ x ∈ a, x ≠ c) → partsAt c (a ++ c :: b) cur = (cur ++ a) :: partsAt c b []
  | [], cur, _ => by
    rw [List.nil_append, partsAt_cons, if_pos rfl, List.append_nil]
  | x :: t, cur, h => by
    rw [List.cons_append, partsAt_cons, if_neg (h x (List.mem_cons_self ..)), partsAt_line c b t _ fun y hy => h y (List.mem_cons_of_mem _ hy)]
    simp
/-- Lines, each with its end, and nothing behind. -/
theorem exec_app {a b : List UInt8} (h : EndsAt 10 a) : (partsAt 10 (a ++ b) []).foldl runL (0, []) = (partsAt 10 b []).foldl runL ((partsAt 10 a []).foldl runL (0, [])) := by
  rw [partsAt_app 10 b a [] (by rcases h with h | h; exact .inr ⟨h, rfl⟩; exact .inl h), List.foldl_append]
/-- What was said before stays. -/
theorem run_out (L : List (List UInt8)) : ∀ w out, L.foldl runL (w, out) = ((L.foldl runL (w, [])).1, out ++ (L.foldl runL (w, [])).2) := by
  induction L with
  | nil => intro w out; simp
  | cons l L ih =>
    intro w out
    rw [List.foldl_cons, List.foldl_cons, ih, ih _ (runL (w, []) l).2]
    rw [show runL (w, out) l = ((lineA w (BA l)).1, out ++ ((lineA w (BA l)).2 ++ [10])) from rfl, show runL (w, []) l = ((lineA w (BA l)).1, [] ++ ((lineA w (BA l)).2 ++ [10])) from rfl]
    simp
theorem run_ends (L : List (List UInt8)) : ∀ w out, EndsAt 10 out → EndsAt 10 (L.foldl runL (w, out)).2 := by
  induction L with
  | nil => exact fun w out h => h
  | cons l L ih =>
    intro w out _
    rw [List.foldl_cons]
    exact ih _ _ (.inr ⟨out ++ (lineA w (BA l)).2, by simp [runL]⟩)
theorem exec_ends (s : ByteArray) : EndsAt 10 (execR s).2 := by rw [execR_parts]; exact run_ends _ _ _ (.inl rfl)
theorem decN_dd : ∀ n, decN n = Lib.decDigits n := by
  intro n
  induction n using Nat.strongRecOn with
  | ind n ih =>
    unfold decN Lib.decDigits
    split
    · rfl
    · rw [ih (n / 10) (by omega)]
theorem decN_itoa {n : Int} (h : 0 ≤ n) : Lib.itoa n = decN n.toNat := by unfold Lib.itoa; rw [if_neg (by omega), decN_dd]
theorem decN_byte : ∀ n, ∀ x ∈ decN n, 48 ≤ x.toNat ∧ x.toNat ≤ 57 := by
  intro n
  induction n using Nat.strongRecOn with
  | ind n ih =>
    intro x hx
    by_cases h : n < 10
    · rw [decN_small h, List.mem_singleton] at hx
      subst hx
      simp
      omega
    · rw [decN_big h, List.mem_append, List.mem_singleton] at hx
      rcases hx with hx | rfl
      · exact ih (n / 10) (by omega) x hx
      · simp
        omega
end Go.Proofs.YtcfhfllcdliaoaaGreatDoor
/- The model's scripts: Execute. -/
namespace Go.Proofs.YtcfhfllcdliaoaaGreatDoor
open Go.RowKit
open Go.PlainAid (bt get_bt bt_nonneg bt_le)
set_option linter.unusedVariables false
set_option linter.unusedSimpArgs false
attribute [local irreducible] octS cN octF syn

/-! ### Answers are short -/
theorem saidL_len {a : List Int × Bool} (h : SmallL a.1) : (saidL a).length ≤ 800 := by
  unfold saidL
  split
  · have h1 := saidTo_len a.1 h.at_ a.1.length
    have h2 := h.1
    omega
  · decide
theorem bareA_len {n : Int} (hn : IsW n) (u : List UInt8) : (bareA n u).length ≤ 800 := by
  rw [bareA_eq]
  by_cases h0 : u = wShow
  · rw [if_pos h0, chrs_len]; decide
  rw [if_neg h0]
  by_cases h1 : u = wPlaces
  · rw [if_pos h1]; exact saidL_len (a := (plI n.toNat, true)) (small_pl _)
  rw [if_neg h1]
  by_cases h2 : u = wWeight
  · rw [if_pos h2]; exact saidL_len (a := ([wt n], true)) (small_wt _)
  rw [if_neg h2]
  by_cases h3 : u = wScores
  · rw [if_pos h3]; exact saidL_len (a := (scoresI n, true)) (small_scores _)
  rw [if_neg h3]
  by_cases h4 : u = wNear
  · rw [if_pos h4]; exact saidL_len (a := ([cFar n], true)) (small_far hn)
  rw [if_neg h4]
  by_cases h5 : u = wSextet
  · rw [if_pos h5]; exact saidL_len (small_sx _)
  rw [if_neg h5]
  by_cases h6 : u = wMeet
  · rw [if_pos h6]; exact saidL_len (small_meet _)
  rw [if_neg h6]
  by_cases h7 : u = wIn
  · rw [if_pos h7]; cases cIn n <;> decide
  rw [if_neg h7]; decide
theorem doneA_len (n : Int) (c : Int × Bool) : (doneA n c).2.length ≤ 800 := by
  unfold doneA
  by_cases h : c.2 = true
  · rw [if_pos h]; show aOk.length ≤ 800; decide
  · rw [if_neg h]; show aNo.length ≤ 800; decide
theorem lineA_len {n : Int} (hn : IsW n) (l : ByteArray) : (lineA n l).2.length ≤ 800 := by
  unfold lineA
  by_cases h : spAt l = l.size
  · rw [if_pos h]
    by_cases hm : l = BA wMend
    · rw [if_pos hm]; exact doneA_len _ _
    · rw [if_neg hm]; exact bareA_len hn _
  · rw [if_neg h]
    generalize changeA n (l.extract 0 (spAt l)).data.toList (l.extract (spAt l + 1) l.size) = c
    by_cases hk : c.2.1 = true
    · rw [if_pos hk]; exact doneA_len _ _
    · rw [if_neg hk]; show aWhat.length ≤ 800; decide
theorem ba_add {P : Program} (a b : List UInt8) (h : a.length + b.length ≤ 1000000000) (W : World) : (Op.stringOp .add (BA a) (BA b)).run P W = .ok (.string (BA (a ++ b))) W := by
  rw [run_string_add_sum W _ _ (by show a.length + b.length ≤ _; omega)]
  exact congrArg (fun s => Result.ok (Value.string s) W) (ByteArray.mk_append_mk a b)
set_option maxHeartbeats 4000000 in
theorem sExecute_calls (s : ByteArray) (w : World) (hs : s.size ≤ maxLen) :
    Calls Tryz.prog 12 #[.string s] w fun e w' => e = .returned (.string (execA s)) ∧ Below w.heap.size w w' := by
  unfold maxLen at hs
  by_cases hbig : 600 < s.size
  · have HE := Lib.hid (show execA s = ⟨#[116, 111, 111, 32, 108, 111, 110, 103, 10]⟩ by unfold execA; rw [if_pos hbig]; rfl)
    have hb : (600 : Int) < (s.size : Int) := by omega
    clear hbig
    go_enter Tryz.func12, Tryz.ntmps12
    go_wp2_with fail
    go_ret
    exact ⟨by rw [HE.out]; rfl, Below.refl _ _⟩
  · have HE := Lib.hid (show execA s = BA ((execR s).2 ++ (wWord ++ (decN (execR s).1.toNat ++ [10]))) by unfold execA; rw [if_neg hbig])
    have hb : ¬ (600 : Int) < (s.size : Int) := by omega
    have hb6 : s.size ≤ 600 := by omega
    have hget := get_bt s
    have H0 := Lib.hid (show execGo s (s.size - 0) 0 0 0 [] = execR s from rfl)
    have HS := Lib.hid hb6
    clear hbig
    generalize execA s = A at *
    generalize execR s = R at *
    go_enter Tryz.func12, Tryz.ntmps12
    go_wp2_with fail
    go_loopw [3, 4, 5, 6] (fun x o fr i wr => ∃ (k f : Nat) (n : Int) (L : List UInt8), k ≤ s.size ∧ f ≤ k ∧ Hid (IsW n ∧ L.length ≤ 1000 * k) ∧ x = .int .i64 n ∧ o = .string (BA L) ∧ fr = .int .i64 (f : Int) ∧ i = .int .i64 (k : Int) ∧ Hid (execGo s (s.size - k) k f n L = R) ∧ Hid (Below w.heap.size w wr)) (fun _ _ _ i _ => s.size - (intOf i).toNat)
    case atStart => exact ⟨0, 0, 0, [], by omega, by omega, Lib.hid ⟨⟨by decide, by decide⟩, by simp⟩, rfl, rfl, rfl, rfl, H0, Lib.hid (Below.refl _ _)⟩
    case round =>
      obtain ⟨k, f, n, L, hk, hf, hn, rfl, rfl, rfl, rfl, hR, hb1⟩ := hrel
      by_cases hlt : k < s.size
      · have hk1 : (k : Int) < (s.size : Int) := by omega
        have hk0 : (0 : Int) ≤ (k : Int) := by omega
        have hf1 : (f : Int) ≤ (k : Int) := by omega
        have hf0 : (0 : Int) ≤ (f : Int) := by omega
        have hf2 : (k : Int) ≤ (s.size : Int) := by omega
        have hfu : s.size - k = (s.size - (k + 1)) + 1 := by omega
        rw [hfu] at hR
        by_cases h10 : bt s k = 10
        · have e1 : (bt s k == 10) = true := by simp [h10]
          have HR := Lib.hid ((execGo_line h10).symm.trans hR.out)
          have HL := Lib.hid (fun W => l10Line_calls n (s.extract f k) W hn.out.1 (by have := ext_size_le s f k; have := HS.out; omega))
          have HW := Lib.hid (lineA_rng hn.out.1 (s.extract f k))
          have HN := Lib.hid (lineA_len hn.out.1 (s.extract f k))
          have HA := Lib.hid (fun W : World => ba_add (P := Tryz.prog) L ((lineA n (s.extract f k)).2 ++ [10]) (by have := hn.out.2; have := HS.out; have := HN.out; simp; omega) W)
          obtain ⟨c, hc⟩ : ∃ c, lineA n (s.extract f k) = c := ⟨_, rfl⟩
          rw [hc] at HR HL HW HN HA
          obtain ⟨m, u⟩ := c
          have hadd : ∀ W : World, (Op.stringOp .add (BA L) (BA (u ++ [10]))).run Tryz.prog W = .ok (.string (BA (L ++ (u ++ [10])))) W := HA.out
          clear hc h10 hR hfu HA
          go_wp2_with fail
          refine (HL.out _).mono ?_
          rintro e w1 ⟨rfl, b1⟩
          have hb1 := Lib.hid (hb1.out.trans (b1.mono hb1.out.size))
          clear b1
          go_wp2_with fail
          go_roundw
          case rel => exact ⟨k + 1, k + 1, m, L ++ (u ++ [10]), by omega, by omega, Lib.hid ⟨HW.out, by have := hn.out.2; have h2 : u.length ≤ 800 := HN.out; simp; omega⟩, by go_num, by first | rfl | assumption, by go_num, by go_num, HR, hb1⟩
          case measure => simp [intOf]; omega
        · have e1 : (bt s k == 10) = false := by simp [h10]
          have HR := Lib.hid ((execGo_on h10).symm.trans hR.out)
          clear h10 hR hfu
          go_wp2_with fail
          go_roundw
          case rel => exact ⟨k + 1, f, n, L, by omega, by omega, Lib.hid ⟨hn.out.1, by have := hn.out.2; omega⟩, by first | rfl | assumption, by first | rfl | assumption, by first | rfl | assumption, by go_num, HR, hb1⟩
          case measure => simp [intOf]; omega
      · obtain rfl : k = s.size := by omega
        have hRR : R = (n, L) := by
          have := hR.out
          rw [Nat.sub_self] at this
          exact this.symm
        rw [hRR] at HE
        have hlt2 : ¬ ((s.size : Int) < (s.size : Int)) := by omega
        obtain ⟨x, rfl⟩ := Int.eq_ofNat_of_zero_le hn.out.1.1
        have hx : x < 10 ^ (7 + 1) := by have := hn.out.1.2; omega
        have HD := Lib.hid (fun W => l6Dec_calls 7 x hx (by omega) W)
        have hd := decN_len 7 x hx
        have hl := hn.out.2
        have hs6 := HS.out
        have hdec : decB (x : Int) = BA (decN x) := by unfold decB; rw [Int.toNat_natCast]; rfl
        rw [hdec] at HD
        have ha1 : ∀ W : World, (Op.stringOp .add (BA L) ⟨#[119, 111, 114, 100, 32]⟩).run Tryz.prog W = .ok (.string (BA (L ++ wWord))) W := fun W => ba_add L wWord (by simp [wWord]; omega) W
        have ha2 : ∀ W : World, (Op.stringOp .add (BA (L ++ wWord)) (BA (decN x))).run Tryz.prog W = .ok (.string (BA ((L ++ wWord) ++ decN x))) W := fun W => ba_add _ _ (by simp [wWord]; omega) W
        have ha3 : ∀ W : World, (Op.stringOp .add (BA ((L ++ wWord) ++ decN x)) ⟨#[10]⟩).run Tryz.prog W = .ok (.string A) W := fun W => by
          rw [HE.out, show (⟨#[10]⟩ : ByteArray) = BA [10] from rfl, ba_add _ _ (by simp [wWord]; omega) W]
          show Result.ok (Value.string (BA _)) W = Result.ok (Value.string (BA (L ++ (wWord ++ (decN ((x : Int)).toNat ++ [10]))))) W
          rw [Int.toNat_natCast]
          simp only [List.append_assoc]
        generalize BA ((L ++ wWord) ++ decN x) = T2 at *
        generalize BA (L ++ wWord) = T1 at *
        generalize BA (decN x) = TD at *
        clear hx hd hl hs6 hdec hRR hR
        go_wp2_with fail
        refine (HD.out _).mono ?_
        rintro e w1 ⟨rfl, b1⟩
        have hb1 := Lib.hid (hb1.out.trans (b1.mono hb1.out.size))
        clear b1
        go_wp2_with fail
        go_ret
        exact ⟨rfl, hb1.out⟩
end Go.Proofs.YtcfhfllcdliaoaaGreatDoor
/- The library's Cut and Split at one byte, by the parts of a text. -/
namespace Go.Proofs.YtcfhfllcdliaoaaGreatDoor
open Go.RowKit
open Go.PlainAid (bt get_bt bt_nonneg bt_le)
set_option linter.unusedVariables false
set_option linter.unusedSimpArgs false
attribute [local irreducible] octS cN octF syn

theorem index_hit (c : UInt8) (t : List UInt8) : Lib.index (c :: t) [c] = 0 := by
  unfold Lib.index
  rw [if_pos (by simp)]
theorem index_miss {c x : UInt8} (t : List UInt8) (h : x ≠ c) : Lib.index (x :: t) [c] = if Lib.index t [c] == -1 then -1 else Lib.index t [c] + 1 := by
  conv => lhs; unfold Lib.index
  rw [if_neg]
  intro e
  simp at e
  exact h e.symm
theorem index_none {c : UInt8} : ∀ t : List UInt8, t.count c = 0 → Lib.index t [c] = -1
  | [], _ => rfl
  | x :: t, h => by
    have hx : x ≠ c := fun e => by subst e; simp at h
    rw [index_miss t hx, index_none t (by rw [List.count_cons_of_ne hx] at h; exact h)]
    rfl
theorem index_some {c : UInt8} : ∀ t : List UInt8, t.count c ≠ 0 → 0 ≤ Lib.index t [c]
  | [], h => absurd rfl h
  | x :: t, h => by
    by_cases hx : x = c
    · subst hx; rw [index_hit]; exact Int.le_refl _
    · rw [List.count_cons_of_ne hx] at h
      have := index_some t h
      rw [index_miss t hx, if_neg (by intro e; have := beq_iff_eq.1 e; omega)]
      omega
def onHead (d : List UInt8) : List (List UInt8) → List (List UInt8)
  | [] => []
  | h :: r => (d ++ h) :: r
theorem splitK_miss {c x : UInt8} (t : List UInt8) (hx : x ≠ c) : Lib.splitK [c] 0 ((x :: t).count c) (x :: t) = onHead [x] (Lib.splitK [c] 0 (t.count c) t) := by
  rw [List.count_cons_of_ne hx]
  cases hk : t.count c with
  | zero => rfl
  | succ k =>
    have hi := index_some t (by rw [hk]; omega)
    obtain ⟨i, hi⟩ := Int.eq_ofNat_of_zero_le hi
    have h1 : Lib.index (x :: t) [c] = ((i + 1 : Nat) : Int) := by
      rw [index_miss t hx, if_neg (by intro e; have := beq_iff_eq.1 e; omega), hi]
      omega
    unfold Lib.splitK
    rw [if_neg (by intro e; have := beq_iff_eq.1 e; omega), if_neg (by intro e; have := beq_iff_eq.1 e; omega), h1, hi, Int.toNat_natCast, Int.toNat_natCast]
    show _ = ([x] ++ _) :: _
    rw [show i + 1 + 0 = i + 1 from rfl, List.take_succ_cons]
    simp only [List.length_cons, List.length_nil, List.singleton_append, Nat.add_zero]
    rw [show i + 1 + (0 + 1) = (i + (0 + 1)) + 1 by omega, List.drop_succ_cons]
theorem parts_head (c : UInt8) : ∀ (l cur : List UInt8), partsAt c l cur ++ [tailAt c l cur] = onHead cur (partsAt c l [] ++ [tailAt c l []])
  | [], cur => by simp [partsAt, tailAt, onHead]
  | x :: t, cur => by
    unfold partsAt tailAt
    by_cases h : x = c
    · simp [if_pos h, onHead]
    · simp only [if_neg h]
      rw [parts_head c t (cur ++ [x]), parts_head c t ([] ++ [x])]
      cases partsAt c t [] ++ [tailAt c t []] with
      | nil => rfl
      | cons a r => simp [onHead]
/-- All parts of a text at one byte: those that end with it, and what stands behind. -/
theorem split_parts (c : UInt8) : ∀ l : List UInt8, Lib.splitK [c] 0 (l.count c) l = partsAt c l [] ++ [tailAt c l []]
  | [] => rfl
  | x :: t => by
    by_cases h : x = c
    · subst h
      rw [List.count_cons_self]
      unfold Lib.splitK
      rw [index_hit, if_neg (by decide)]
      unfold partsAt tailAt
      rw [if_pos rfl, if_pos rfl]
      show [] :: Lib.splitK [x] 0 (t.count x) t = _
      rw [split_parts x t]
      rfl
    · rw [splitK_miss t h, split_parts c t]
      conv => rhs; unfold partsAt tailAt
      rw [if_neg h, if_neg h, List.nil_append, parts_head c t [x]]
theorem countB_one (s : ByteArray) (c : UInt8) : Lib.countB s ⟨#[c]⟩ = s.data.toList.count c := Lib.count_one c s.data.toList
/-- The library's Split at one byte. -/
theorem splitB_parts (s : ByteArray) (c : UInt8) : Lib.splitB ⟨#[c]⟩ 0 (Lib.countB s ⟨#[c]⟩) s = (partsAt c s.data.toList [] ++ [tailAt c s.data.toList []]).map BA := by
  have h := Lib.splitB_data ⟨#[c]⟩ 0 (Lib.countB s ⟨#[c]⟩) s
  rw [countB_one] at h ⊢
  rw [show (⟨#[c]⟩ : ByteArray).data.toList = [c] from rfl, split_parts] at h
  rw [← h, List.map_map]
  conv => lhs; rw [← List.map_id (Lib.splitB _ _ _ _)]
  exact List.map_congr_left fun x _ => rfl
theorem partsAt_len (c : UInt8) : ∀ l cur, (partsAt c l cur).length = l.count c
  | [], _ => rfl
  | x :: t, cur => by
    unfold partsAt
    split
    · rename_i h; subst h; rw [List.length_cons, partsAt_len x t [], List.count_cons_self]
    · rename_i h; rw [partsAt_len c t, List.count_cons_of_ne h]
/-- The parts of a rest, as the model cuts them. -/
theorem pcs_parts (s : ByteArray) : ∀ f i fr, f = s.size + 1 - i → fr ≤ i → i ≤ s.size →
    pcs s f i fr = (partsAt 32 (s.data.toList.drop i) (s.extract fr i).data.toList ++ [tailAt 32 (s.data.toList.drop i) (s.extract fr i).data.toList]).map BA
  | 0, i, fr, hf, hr, hi => by omega
  | f + 1, i, fr, hf, hr, hi => by
    by_cases he : i = s.size
    · rw [List.drop_eq_nil_of_le (by rw [len_list]; omega)]
      unfold pcs
      rw [if_pos (Or.inl he), show f = 0 by omega]
      rfl
    · have hlt : i < s.size := by omega
      have hl : i < s.data.toList.length := lt_list hlt
      rw [List.drop_eq_getElem_cons hl]
      unfold partsAt tailAt pcs
      by_cases h : bt s i = 32
      · have hb : s.data.toList[i] = 32 := (byte_eq _ 32).1 (by rw [← bt_at s i hlt, h]; rfl)
        rw [if_pos (Or.inr h), if_pos hb, if_pos hb, pcs_parts s f (i + 1) (i + 1) (by omega) (Nat.le_refl _) (by omega)]
        rw [show (s.extract (i + 1) (i + 1)).data.toList = [] by rw [ext_list]; simp]
        rfl
      · have hb : ¬ s.data.toList[i] = 32 := fun e => h (by rw [bt_at s i hlt, e]; rfl)
        rw [if_neg (by rintro (e | e); exact he e; exact h e), if_neg hb, if_neg hb, pcs_parts s f (i + 1) fr (by omega) (by omega) (by omega), ext_snoc s fr i hr hlt]
/-- The parts of a rest: what the library's Split gives. -/
theorem pcs_split (s : ByteArray) : pcs s (s.size + 1) 0 0 = Lib.splitB ⟨#[32]⟩ 0 (Lib.countB s ⟨#[32]⟩) s := by
  rw [pcs_parts s (s.size + 1) 0 0 (by omega) (Nat.le_refl _) (by omega), splitB_parts, List.drop_zero, show (s.extract 0 0).data.toList = [] by rw [ext_list]; simp]
/-- The lines of a script: what the library's Split gives, the last one left out. -/
theorem lines_split (s : ByteArray) : (Lib.splitB ⟨#[10]⟩ 0 (Lib.countB s ⟨#[10]⟩) s).take (Lib.countB s ⟨#[10]⟩) = (partsAt 10 s.data.toList []).map BA := by
  rw [splitB_parts, List.map_append, List.take_left' (by rw [List.length_map, partsAt_len, countB_one])]

/-! ### Cut at a space -/
theorem sp_index (l : ByteArray) : ∀ f i, f = l.size - i → i ≤ l.size → ((spGo l f i = l.size ∧ Lib.index (l.data.toList.drop i) [32] = -1) ∨ (spGo l f i < l.size ∧ Lib.index (l.data.toList.drop i) [32] = ((spGo l f i - i : Nat) : Int)))
  | 0, i, hf, hi => by
    rw [List.drop_eq_nil_of_le (by rw [len_list]; omega)]
    exact .inl ⟨by show i = _; omega, rfl⟩
  | f + 1, i, hf, hi => by
    have hlt : i < l.size := by omega
    have hl : i < l.data.toList.length := lt_list hlt
    rw [List.drop_eq_getElem_cons hl]
    by_cases h : bt l i = 32
    · have hb : l.data.toList[i] = 32 := (byte_eq _ 32).1 (by rw [← bt_at l i hlt, h]; rfl)
      rw [spGo_here h, hb, index_hit]
      exact .inr ⟨hlt, by simp⟩
    · have hb : ¬ l.data.toList[i] = 32 := fun e => h (by rw [bt_at l i hlt, e]; rfl)
      rw [spGo_on h, index_miss _ hb]
      have hle := spGo_le l f (i + 1)
      rcases sp_index l f (i + 1) (by omega) (by omega) with ⟨h1, h2⟩ | ⟨h1, h2⟩
      · exact .inl ⟨h1, by rw [h2]; rfl⟩
      · refine .inr ⟨h1, ?_⟩
        rw [h2, if_neg (by intro e; have := beq_iff_eq.1 e; omega)]
        omega
theorem cut_no {l : ByteArray} (h : spAt l = l.size) : Lib.cut l.data.toList [32] = (l.data.toList, [], false) := by
  have h1 := sp_index l l.size 0 (by omega) (by omega)
  rw [List.drop_zero] at h1
  unfold spAt at h
  unfold Lib.cut
  rcases h1 with ⟨_, h2⟩ | ⟨h2, _⟩
  · rw [h2, if_neg (by decide)]
  · omega
theorem cut_yes {l : ByteArray} (h : ¬ spAt l = l.size) : Lib.cut l.data.toList [32] = ((l.extract 0 (spAt l)).data.toList, (l.extract (spAt l + 1) l.size).data.toList, true) := by
  have h1 := sp_index l l.size 0 (by omega) (by omega)
  rw [List.drop_zero] at h1
  unfold spAt at h ⊢
  unfold Lib.cut
  rcases h1 with ⟨h2, _⟩ | ⟨h2, h3⟩
  · exact absurd h2 h
  · rw [h3, if_pos (by omega), Int.toNat_natCast, ext_list, ext_list, List.drop_zero]
    congr 1
    congr 1
    rw [List.take_of_length_le (by rw [List.length_drop, len_list]; exact Nat.le_refl _)]
    rfl
end Go.Proofs.YtcfhfllcdliaoaaGreatDoor