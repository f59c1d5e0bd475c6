import Derived.Test.YtcfhfllcdliaoaaGreatDoorC27
import Derived.Test.YtcfhfllcdliaoaaGreatDoorC28
import Derived.Test.YtcfhfllcdliaoaaGreatDoorQ2
import Derived.Test.YtcfhfllcdliaoaaGreatDoorQ3
import Derived.Test.YtcfhfllcdliaoaaGreatDoorP3
import Derived.Test.YtcfhfllcdliaoaaGreatDoorC113
import Derived.Test.YtcfhfllcdliaoaaGreatDoorQ1
import Derived.Maps.AppendAt
import Derived.Deep.QuietTactic
import Derived.BigQuiet
import Derived.Test.YtcfhfllcdliaoaaGreatDoorW7
/- Octads: which numbers are octads; sums of two. -/
namespace Go.Proofs.YtcfhfllcdliaoaaGreatDoor
open Go.RowKit
set_option linter.unusedVariables false

def oIn (n : Int) : Bool := cIn n && decide (wt n = 8)
def oPair (a b : Int) : Int × Bool := if oIn a && oIn b && decide (wt (xorI a b) = 8) then (xorI a b, true) else (0, false)
theorem oIn_w {n : Int} (h : oIn n = true) : IsW n ∧ codeInB n = true ∧ wt n = 8 := by
  simp only [oIn, cIn, Bool.and_eq_true, decide_eq_true_eq] at h
  exact ⟨(wordB_iff n).1 h.1.1, h.1.2, h.2⟩
theorem oIn_of {n : Int} (h : IsW n) : oIn n = (decide (wt n = 8) && codeInB n) := by
  simp only [oIn, cIn, (wordB_iff n).2 h, Bool.true_and]
  exact Bool.and_comm _ _
theorem word_isOctad (n : Int) (w : World) (hn : IsW n) (hT : Tab3 w) :
    Calls Tryz.prog 226 #[.int .u32 n] w fun e w' => e = .returned (.bool (oIn n)) ∧ Below w.heap.size w w' := by
  rw [oIn_of hn]
  by_cases h8 : wt n = 8
  · have hx : (decide (wt n = 8) && codeInB n) = codeInB n := by simp [h8]
    rw [hx]
    have HW := Lib.hid h8
    clear h8 hx
    go_enter Tryz.func226, Tryz.ntmps226
    go_wp2_with (first
      | (go_at_call 44; refine (word_weight _ _ hn.1 hn.2).mono ?_; rintro e w' ⟨he, k, rfl⟩; rw [HW.out] at he; subst he)
      | (go_at_call 186; refine (word_inCode _ _ hn (hT.below (below_drewN (Below.refl _ _) _) hT.lt)).mono ?_; rintro e w1 ⟨rfl, b1⟩))
    go_ret
    exact ⟨rfl, (below_drewN (Below.refl w.heap.size w) _).trans b1⟩
  · have hx : (decide (wt n = 8) && codeInB n) = false := by simp [h8]
    rw [hx]
    have h81 : (wt n == 8) = false := by simpa using h8
    generalize hq : wt n = q at *
    have HW := Lib.hid hq
    clear h8 hx hq
    go_enter Tryz.func226, Tryz.ntmps226
    go_wp2_with (go_at_call 44; refine (word_weight _ _ hn.1 hn.2).mono ?_; rintro e w' ⟨he, k, rfl⟩; rw [HW.out] at he; subst he)
    go_ret
    exact ⟨rfl, below_drewN (Below.refl w.heap.size w) _⟩
theorem octadFrom_yes (n : Int) (w : World) (h : oIn n = true) (hT : Tab3 w) :
    Calls Tryz.prog 190 #[.int .i64 n] w fun e w' => e = .returned (.tuple #[.int .u32 n, .bool true]) ∧ Below w.heap.size w w' := by
  have hn := (oIn_w h).1
  have H := Lib.hid h
  clear h
  go_enter Tryz.func190, Tryz.ntmps190
  go_wp2_with (first
    | (go_at_call 40; refine (wordFrom_ok _ _ hn.1 hn.2).mono ?_; rintro e w' ⟨rfl, rfl⟩)
    | (go_at_call 226; refine (word_isOctad _ _ hn hT).mono ?_; rintro e w1 ⟨he, b1⟩; rw [H.out] at he; subst he))
  go_ret2
  exact ⟨rfl, b1⟩
theorem octadFrom_no (n : Int) (w : World) (h : oIn n = false) (hT : Tab3 w) :
    Calls Tryz.prog 190 #[.int .i64 n] w fun e w' => e = .returned (.tuple #[.int .u32 0, .bool false]) ∧ Below w.heap.size w w' := by
  rcases hb : wordB n with _ | _
  · have hn := (wordB_no n).1 hb
    clear hb h
    go_enter Tryz.func190, Tryz.ntmps190
    go_wp2_with (go_at_call 40; refine (wordFrom_no _ _ hn).mono ?_; rintro e w' ⟨rfl, rfl⟩)
    go_ret2
    exact ⟨rfl, Below.refl _ _⟩
  · have hn := (wordB_iff n).1 hb
    have H := Lib.hid h
    clear h hb
    go_enter Tryz.func190, Tryz.ntmps190
    go_wp2_with (first
      | (go_at_call 40; refine (wordFrom_ok _ _ hn.1 hn.2).mono ?_; rintro e w' ⟨rfl, rfl⟩)
      | (go_at_call 226; refine (word_isOctad _ _ hn hT).mono ?_; rintro e w1 ⟨he, b1⟩; rw [H.out] at he; subst he))
    go_ret2
    exact ⟨rfl, b1⟩
theorem sOctadIn_calls (n : Int) (w : World) :
    Calls Tryz.prog 144 #[.int .i64 n] w fun e w' => e = .returned (.bool (oIn n)) ∧ Below w.heap.size w w' := by
  rcases hc : cIn n with _ | _
  · rw [show oIn n = false by simp [oIn, hc]]
    have HC := Lib.hid hc
    clear hc
    go_enter Tryz.func144, Tryz.ntmps144
    go_wp2_with (go_at_call 103; refine (sCodeIn_calls _ _).mono ?_; rintro e w1 ⟨he, b1⟩; rw [HC.out] at he; subst he)
    go_ret
    exact ⟨rfl, b1⟩
  · have hx : oIn n = (wt n == 8) := by
      simp only [oIn, hc, Bool.true_and]
      by_cases h : wt n = 8 <;> simp [h]
    rw [hx]
    have HC := Lib.hid hc
    clear hc hx
    go_enter Tryz.func144, Tryz.ntmps144
    go_wp2_with (first
      | (go_at_call 103; refine (sCodeIn_calls _ _).mono ?_; rintro e w1 ⟨he, b1⟩; rw [HC.out] at he; subst he)
      | (go_at_call 71; refine (l1Weight_calls _ _).mono ?_; rintro e w' ⟨rfl, rfl⟩))
    go_ret
    exact ⟨rfl, b1⟩
end Go.Proofs.YtcfhfllcdliaoaaGreatDoor
/- All octads in a row, of the model: gathered, sorted by halves. -/
namespace Go.Proofs.YtcfhfllcdliaoaaGreatDoor
open Go.RowKit
attribute [local irreducible] octS
set_option linter.unusedVariables false

set_option maxRecDepth 100000 in
set_option maxHeartbeats 2000000 in
theorem l4All_calls (w : World) :
    Calls Tryz.prog 145 #[] w fun e w' => ∃ A c, e = .returned (.slice A 759 c) ∧ 759 ≤ c ∧ c ≤ maxLen ∧ Rds w' w'.heap.size .i64 A octS ∧ (∀ ad, A = some ad → w.heap.size ≤ ad.block) ∧ Below w.heap.size w w' := by
  have HO := Lib.hid (own_empty w w.heap.size (Nat.le_refl _))
  go_enter Tryz.func145, Tryz.ntmps145
  go_wp2
  go_loopw [1, 2] (fun v i wr => ∃ k : Nat, k ≤ 4096 ∧ i = .int .i64 k ∧ Hid (Own wr w.heap.size v (octF k)) ∧ Hid (Below w.heap.size w wr)) (fun _ i _ => 4096 - (intOf i).toNat)
  case atStart => exact ⟨0, by omega, rfl, HO, Lib.hid ((Below.refl _ _).alloc (Nat.le_refl _) _)⟩
  case round =>
    obtain ⟨k, hk, rfl, ho, hb⟩ := hrel
    clear HO
    by_cases hlt : k < 4096
    · have hl := octF_len k
      have HS := Lib.hid (show octF (k + 1) = if wt (codeOf k) = 8 then octF k ++ [codeOf k] else octF k from rfl)
      have hx := codeOf_range (k : Int)
      generalize octF k = L at *
      generalize hC : codeOf (k : Int) = x at *
      have HC := Lib.hid hC
      clear hC
      by_cases h8 : wt x = 8
      · have H8 := Lib.hid h8
        rw [if_pos h8] at HS
        clear h8
        go_wp2_with (first
          | (go_at_call 50; refine (l3Of_calls _ _ (by omega) (by omega)).mono ?_; rintro e w1 ⟨he, b1⟩; rw [HC.out] at he; subst he)
          | (go_at_call 71; refine (l1Weight_calls _ _).mono ?_; rintro e w' ⟨he, rfl⟩; rw [H8.out] at he; subst he)
          | (at_builtin; refine wpList_push rfl _ _ rfl w1 w.heap.size _ _ _ _ rfl rfl (by exact ho.out.below b1) (by omega) (Nat.le_trans hb.out.size b1.size) ?_; intro v2 w2 ho2 hb2 _))
        rw [← HS.out] at ho2
        go_roundw
        case rel => exact ⟨k + 1, by omega, by go_num, Lib.hid ho2, Lib.hid ((hb.out.trans (b1.mono hb.out.size)).trans hb2)⟩
        case measure => simp [intOf]; omega
      · rw [if_neg h8] at HS
        have h81 : (wt x == 8) = false := by simpa using h8
        clear h8
        generalize hq : wt x = q at *
        have HQ := Lib.hid hq
        clear hq
        go_wp2_with (first
          | (go_at_call 50; refine (l3Of_calls _ _ (by omega) (by omega)).mono ?_; rintro e w1 ⟨he, b1⟩; rw [HC.out] at he; subst he)
          | (go_at_call 71; refine (l1Weight_calls _ _).mono ?_; rintro e w' ⟨he, rfl⟩; rw [HQ.out] at he; subst he))
        go_roundw
        case rel => exact ⟨k + 1, by omega, by go_num, by rw [HS.out]; exact Lib.hid (ho.out.below b1), Lib.hid (hb.out.trans (b1.mono hb.out.size))⟩
        case measure => simp [intOf]; omega
    · obtain rfl : k = 4096 := by omega
      obtain ⟨k, hk⟩ : ∃ k, k = 4096 := ⟨_, rfl⟩
      rw [← hk] at ho
      have hl := octF_len k
      have HE := Lib.hid (octs_eq k hk)
      have HN := Lib.hid octS_759
      generalize octF k = L at *
      obtain ⟨A, c, rfl⟩ := ho.out.slice
      obtain ⟨q1, q2⟩ := own_caps ho.out
      go_wp2_with fail
      refine (l4Sort_calls L.length L A c wr rfl (by omega) q1 q2 ho.out.rds).mono ?_
      have HLO := Lib.hid (own_lo' ho.out)
      rintro e w1 ⟨A', c', ys, rfl, p1, s1, l1, m1, r1, a1, b1, _⟩
      have hys := HE.out ys p1 s1
      have hn : L.length = 759 := by rw [← p1.length_eq, hys]; exact HN.out
      rw [hys] at r1
      rw [hn] at l1
      go_wp2_with fail
      go_ret
      exact ⟨A', c', by first | rfl | rw [hn], l1, m1, r1, (fun ad h => by rcases a1 ad h with h | h; exact HLO.out ad h; exact Nat.le_trans hb.out.size h), hb.out.trans (b1.mono hb.out.size)⟩
end Go.Proofs.YtcfhfllcdliaoaaGreatDoor
/- Octads of the model: through places, counted, met, dodecads. -/
namespace Go.Proofs.YtcfhfllcdliaoaaGreatDoor
open Go.RowKit
set_option linter.unusedVariables false
attribute [local irreducible] octS cN octF

theorem wof_is {xs : List Int} {t : Int} (h : wof xs = some t) : IsW t ∧ wt t = xs.length := by
  have := wof_char _ xs t rfl h
  exact ⟨this.1, this.2.2.2.1⟩
def oThrough (xs : List Int) : Int × Bool := match wof xs with
  | some t => if xs.length = 5 then ((oWith t).getD 0 0, true) else (0, false)
  | none => (0, false)
def oList (xs : List Int) : List Int × Bool := match wof xs with
  | some t => if 3 ≤ xs.length ∧ xs.length ≤ 8 then (oWith t, true) else ([], false)
  | none => ([], false)
def oCount (a b : Int) : Int × Bool := if wordB a && wordB b then (((octS.countP (oC a b) : Nat) : Int), true) else (0, false)
def oMeet (w : Int) : List Int × Bool := if oIn w then (cnt9 w octS, true) else ([], false)
def oDod (w : Int) : Int × Int × Bool := if cIn w && decide (wt w = 12) then (leastD w, xorI w (leastD w), true) else (0, 0, false)
theorem oWith_five {t : Int} (h : IsW t) (h5 : wt t = 5) : (oWith t).length = 1 := by
  obtain ⟨T, rfl⟩ := Int.eq_ofNat_of_zero_le h.1
  rw [oWith_thr]
  rw [wt_pop] at h5
  have := h.2
  exact thr5 T (by omega) (by omega)
theorem and_i64w (x W : Int) (hx : 0 ≤ x ∧ x ≤ 16777215) (hW : IsW W) : bits .and .i64 x W = andI x W := and_i64 x W hx.1 (by omega) hW.1 (by have := hW.2; omega)
/-- An append of one element, with where the new slice lies. -/
theorem wpList_pushAt {ops : Array Oper} {rest : List Oper} {o : Oper} {a : Act} {Q : Exit → Act → World → Prop} (hgd : o.guard = none) (s y : Operand)
    (ho : o.op = .call { callee := .builtin .append, args := #[s, y], argTypes := #[61, 61] })
    (w : World) (B : Nat) (v : Value) (xs : List Int) (x : Int) (c : Nat) (hs : a.eval s = v) (hy : a.eval y = .slice (some ⟨w.heap.size, 0, none⟩) 1 c)
    (hown : Own w B v xs) (hlen : xs.length ≤ 1048576) (hB : B ≤ w.heap.size)
    (h : ∀ v' w', Own w' B v' (xs ++ [x]) → Below B w w' → w.grownBy w' v.ownBlock → (∀ k, v'.ownBlock = some k → v.ownBlock = some k ∨ w.heap.size ≤ k) → wpList Tryz.prog ops Q rest (a.put o.dst v') w') :
    wpList Tryz.prog ops Q (o :: rest) a (w.alloc (.cells #[.int .i64 x] 3)) := by
  obtain ⟨i0, hi, hz0, hz1, hz2⟩ := info_parts intRow
  refine wpList_append_own_at _ hgd s y 61 ho B 3 i0 (.int .i64 0) 1 8 Tryz.underlying61 hi hz0 hz1 hz2 rfl (by decide) v xs.length (vals .i64 xs) hs
    (World.ownsRow.alloc hown _) ⟨w.heap.size, 0, none⟩ 1 c [.int .i64 x] hy rfl ?_ ?_ (by unfold maxLen; omega) (by omega) (by simp; omega) ?_
  · intro j u hj
    match j, hj with
    | 0, hj => simp at hj; subst hj; simp [Addr.add]
  · intro u hu; simp at hu; subst hu; rfl
  · intro v' w' h1 h2 _ h3
    have hg : w.grownBy w' v.ownBlock := grown_trans (World.grownBy_alloc w _ _) h2
    refine h v' w' ?_ ((Below.refl B w).grown hg hB (own_row_ge hown)) hg ?_
    · unfold Own
      rw [vals_append, show vals .i64 [x] = [Value.int .i64 x] from rfl]
      simpa using h1
    · intro k hk
      rcases h3 with h3 | h3
      · exact .inl (h3 ▸ hk)
      · rw [h3] at hk
        simp at hk
        exact .inr (by omega)
theorem Rds.apart {w w' : World} {B : Nat} {k : IntKind} {A : Option Addr} {xs : List Int} (h : Rds w B k A xs) {row : Option Nat} (hg : w.grownBy w' row) (hB : B ≤ w.heap.size) (hr : ∀ ad, A = some ad → row ≠ some ad.block) : Rds w' B k A xs := by
  rcases h with rfl | ⟨b, o, h1, h2, h3⟩
  · exact .inl rfl
  · exact .inr ⟨b, o, h1, h2, fun j hj => (World.cell?_of_block (hg.block b (by omega) (fun e => hr _ h1 e.symm))).trans (h3 j hj)⟩
theorem Rds.setFar {w : World} {B : Nat} {k : IntKind} {A : Option Addr} {xs : List Int} (h : Rds w B k A xs) {p : Addr} (hr : ∀ ad, A = some ad → p.block ≠ ad.block) (u : Value) : Rds (w.setCell p u) B k A xs := by
  rcases h with rfl | ⟨b, o, h1, h2, h3⟩
  · exact .inl rfl
  · exact .inr ⟨b, o, h1, h2, fun j hj => (World.cell?_setCell_other w p _ u (fun e => hr _ h1 (by rw [e]))).trans (h3 j hj)⟩
set_option maxRecDepth 100000 in
set_option maxHeartbeats 2000000 in
theorem l4With_calls (W : Int) (w : World) (hW : IsW W) :
    Calls Tryz.prog 142 #[.int .i64 W] w fun e w' => ∃ v, e = .returned v ∧ Own w' w.heap.size v (oWith W) ∧ Below w.heap.size w w' := by
  have HO := Lib.hid (own_empty w w.heap.size (Nat.le_refl _))
  go_enter Tryz.func142, Tryz.ntmps142
  go_wp2_with fail
  refine (l4All_calls _).mono ?_
  rintro e w1 ⟨A, c, rfl, q1, q2, r1, a1, b1⟩
  have HB := Lib.hid (((Below.refl w.heap.size w).alloc (Nat.le_refl _) (.cells #[] 3)).trans (b1.mono (by simp)))
  have HO1 := Lib.hid (HO.out.below b1)
  have HR := Lib.hid r1
  have hs1 : w.heap.size < w1.heap.size := by have := b1.size; simp at this; omega
  have HA := Lib.hid (show ∀ ad, A = some ad → w.heap.size < ad.block from fun ad h => by have := a1 ad h; simp at this; omega)
  have HAU := Lib.hid (show ∀ ad, A = some ad → ad.block < w1.heap.size from fun ad h => by
    obtain ⟨b, o, e, hb, _⟩ := r1.at_ (j := 0) (by rw [octS_759]; decide)
    rw [e] at h; cases h; exact hb)
  clear b1 r1 HO a1
  go_wp2_with fail
  go_loopw [3, 5] (fun v i wr => ∃ k : Nat, k ≤ 759 ∧ i = .int .i64 k ∧ Hid (Own wr w.heap.size v ((octS.take k).filter fun x => andI x W == W)) ∧ Hid (Rds wr w1.heap.size .i64 A octS) ∧ Hid (∀ j, v.ownBlock = some j → j = w.heap.size ∨ w1.heap.size ≤ j) ∧ Hid (Below w.heap.size w wr) ∧ w1.heap.size ≤ wr.heap.size) (fun _ i _ => 759 - (intOf i).toNat)
  case atStart => exact ⟨0, by omega, rfl, HO1, HR, Lib.hid (fun j h => by simp [Value.ownBlock] at h; omega), HB, Nat.le_refl _⟩
  case round =>
    obtain ⟨k, hk, rfl, ho, hr, hj, hb, hz⟩ := hrel
    by_cases hlt : k < 759
    · have HS := Lib.hid (show (octS.take (k + 1)).filter (fun x => andI x W == W) = if andI (octS.getD k 0) W == W then (octS.take k).filter (fun x => andI x W == W) ++ [octS.getD k 0] else (octS.take k).filter (fun x => andI x W == W) by rw [oct_take k hlt, filter_snoc])
      obtain ⟨b, o, rfl, hb1, hc⟩ := hr.out.at_ (j := k) (by rw [octS_759]; exact hlt)
      have hx := (oct_at k hlt).rng
      have hl : ((octS.take k).filter fun x => andI x W == W).length ≤ 759 := by
        have h1 := List.length_filter_le (fun x => andI x W == W) (octS.take k)
        have h2 := List.length_take_le k octS
        omega
      have hq1 : (0 : Int) ≤ (k : Int) := by omega
      have hq2 : (k : Int) < 759 := by omega
      generalize octS.getD k 0 = x at *
      have hxw := and_i64w x W hx hW
      generalize (octS.take k).filter (fun x => andI x W == W) = L at *
      cases hP : andI x W == W
      · have HS2 := Lib.hid (show (octS.take (k + 1)).filter (fun x => andI x W == W) = L by rw [HS.out, hP]; rfl)
        go_wp2_with fail
        go_roundw
        case rel => exact ⟨k + 1, by omega, by go_num, by rw [HS2.out]; exact ho, hr, hj, hb, hz⟩
        case measure => simp [intOf]; omega
      · have HS2 := Lib.hid (show (octS.take (k + 1)).filter (fun x => andI x W == W) = L ++ [x] by rw [HS.out, hP]; rfl)
        go_wp2_with (at_builtin; refine wpList_pushAt rfl _ _ rfl _ w.heap.size _ _ _ _ rfl rfl (by exact ho.out) (by omega) (by omega) ?_; intro v2 w2 ho2 hb2 hg2 hat)
        go_roundw
        case rel =>
          refine ⟨k + 1, by omega, by go_num, by rw [HS2.out]; exact Lib.hid ho2, Lib.hid (hr.out.apart hg2 hz fun ad h e => ?_), Lib.hid (fun j h => ?_), Lib.hid (hb.out.trans hb2), Nat.le_trans hz hg2.size⟩
          · have h1 := HA.out ad h
            have h2 := HAU.out ad h
            rcases hj.out _ e with h3 | h3 <;> omega
          · rcases hat j h with h1 | h1
            · exact hj.out j h1
            · exact .inr (by omega)
        case measure => simp [intOf]; omega
    · obtain rfl : k = 759 := by omega
      have HE := Lib.hid (show (octS.take 759).filter (fun x => andI x W == W) = oWith W by rw [oct_take_all]; rfl)
      rw [HE.out] at ho
      go_wp2_with fail
      go_ret
      exact ⟨_, rfl, ho.out, hb.out⟩
def z9 : Array Value := #[.int .i64 0, .int .i64 0, .int .i64 0, .int .i64 0, .int .i64 0, .int .i64 0, .int .i64 0, .int .i64 0, .int .i64 0]
theorem mk9 (W : World) : (Instr.makeSlice 61 (.int .i64 9) (.int .i64 9)).run Tryz.prog W = .ok (.slice (some ⟨W.heap.size, 0, none⟩) 9 9) (W.alloc (.cells z9 3)) := by kernel_rfl
theorem own9 (w : World) : Own (w.alloc (.cells z9 3)) w.heap.size (.slice (some ⟨w.heap.size, 0, none⟩) 9 9) [0, 0, 0, 0, 0, 0, 0, 0, 0] :=
  ⟨rfl, .inr ⟨w.heap.size, 9, z9, rfl, Nat.le_refl _, heap_alloc_new w _, by decide, by unfold maxLen; omega, rfl, rfl⟩⟩
set_option maxRecDepth 100000 in
set_option maxHeartbeats 2000000 in
theorem sOctadMeet_calls (a : Int) (w : World) :
    Calls Tryz.prog 102 #[.int .i64 a] w (GotL w (oMeet a).1 (oMeet a).2) := by
  have HM := mk9
  have HO := Lib.hid (own9 w)
  rcases hb : oIn a with _ | _
  · rw [show oMeet a = ([], false) by simp [oMeet, hb]]
    have H := Lib.hid hb
    clear hb
    go_enter Tryz.func102, Tryz.ntmps102
    go_wp2_with (go_at_call 144; refine (sOctadIn_calls a _).mono ?_; rintro e w1 ⟨he, b1⟩; rw [H.out] at he; subst he)
    have HE := own_empty w1 w.heap.size (by have := b1.size; simp at this; omega)
    have HB := ((Below.refl w.heap.size w).alloc (Nat.le_refl _) (.cells z9 3)).trans (b1.mono (by simp))
    go_ret2
    exact ⟨_, rfl, HE, HB.alloc (by have := b1.size; simp at this; omega) _⟩
  rw [show oMeet a = (cnt9 a octS, true) by simp [oMeet, hb]]
  obtain ⟨wa, _, w8⟩ := oIn_w hb
  have H := Lib.hid hb
  clear hb
  go_enter Tryz.func102, Tryz.ntmps102
  go_wp2_with fail
  refine (sOctadIn_calls a _).mono ?_
  rintro e w1 ⟨he, b1⟩
  rw [H.out] at he
  subst he
  have HB := Lib.hid (((Below.refl w.heap.size w).alloc (Nat.le_refl _) (.cells z9 3)).trans (b1.mono (by simp)))
  have HO1 := Lib.hid (HO.out.below b1)
  have hs1 : w.heap.size < w1.heap.size := by have := b1.size; simp at this; omega
  clear b1 HO
  go_wp2_with fail
  refine (l4All_calls _).mono ?_
  rintro e w2 ⟨A, c, rfl, q1, q2, r1, a1, b1⟩
  have HB2 := Lib.hid (HB.out.trans (b1.mono HB.out.size))
  have HO2 := Lib.hid (HO1.out.below b1)
  have HR := Lib.hid r1
  have HA := Lib.hid (show ∀ ad, A = some ad → w.heap.size < ad.block from fun ad h => by have := a1 ad h; omega)
  clear b1 HO1 r1 a1 HB
  go_wp2_with fail
  go_loopw [6] (fun i wr => ∃ k : Nat, k ≤ 759 ∧ i = .int .i64 k ∧ Hid (Own wr w.heap.size (.slice (some ⟨w.heap.size, 0, none⟩) 9 9) (cnt9 a (octS.take k))) ∧ Hid (Rds wr w2.heap.size .i64 A octS) ∧ Hid (Below w.heap.size w wr)) (fun i _ => 759 - (intOf i).toNat)
  case atStart => exact ⟨0, by omega, rfl, by rw [List.take_zero, cnt9_nil]; exact HO2, HR, HB2⟩
  case round =>
    obtain ⟨k, hk, rfl, ho, hr, hb⟩ := hrel
    by_cases hlt : k < 759
    · obtain ⟨b, o, rfl, hb1, hc⟩ := hr.out.at_ (j := k) (by rw [octS_759]; exact hlt)
      have hx := oct_at k hlt
      have hle := wt_and_le (octS.getD k 0) a hx.rng.1 wa.1
      have h8 := hx.w8
      have hnn := wt_range (andI (octS.getD k 0) a)
      obtain ⟨j, hj⟩ := Int.eq_ofNat_of_zero_le hnn.1
      have hj9 : j < 9 := by omega
      have HS := Lib.hid (show cnt9 a (octS.take (k + 1)) = (cnt9 a (octS.take k)).set j ((cnt9 a (octS.take k)).getD j 0 + 1) by rw [oct_take k hlt, cnt9_snoc _ _ _ j hj9 hj])
      have hxw := and_i64w (octS.getD k 0) a hx.rng wa
      have hrg := cnt9_rng a (octS.take k) j hj9
      have htl : (octS.take k).length ≤ 759 := by have := List.length_take_le k octS; omega
      have hc2 := ho.out.cell (j := j) (by rw [cnt9_len]; exact hj9)
      have hf2 := ho.out.free j
      have HSET := Lib.hid (ho.out.set j ((cnt9 a (octS.take k)).getD j 0 + 1))
      have hq1 : (0 : Int) ≤ (k : Int) := by omega
      have hq2 : (k : Int) < 759 := by omega
      have HJ := Lib.hid hj
      clear hj hle h8 hnn hx
      generalize octS.getD k 0 = x at *
      generalize andI x a = y at *
      generalize (cnt9 a (octS.take k)).getD j 0 = z at *
      go_wp2_with (go_at_call 71; refine (l1Weight_calls _ _).mono ?_; rintro e w' ⟨he, rfl⟩; rw [HJ.out] at he; subst he)
      go_roundw
      case rel => exact ⟨k + 1, by omega, by go_num, by rw [HS.out]; exact HSET, Lib.hid (hr.out.setFar (fun ad h => by have := HA.out ad h; show w.heap.size ≠ ad.block; omega) _), Lib.hid (hb.out.setCell (p := ⟨w.heap.size, j, none⟩) (Nat.le_refl _) _)⟩
      case measure => simp [intOf]; omega
    · obtain rfl : k = 759 := by omega
      rw [oct_take_all] at ho
      go_wp2_with fail
      go_ret2
      exact ⟨_, rfl, ho.out, hb.out⟩
set_option maxHeartbeats 2000000 in
theorem sOctadThrough_calls (A : Option Addr) (c : Nat) (xs : List Int) (w : World) (ha : Rds w w.heap.size .i64 A xs) (hx : xs.length ≤ maxLen) :
    Calls Tryz.prog 106 #[.slice A xs.length c] w fun e w' => e = .returned (.tuple #[.int .i64 (oThrough xs).1, .bool (oThrough xs).2]) ∧ Below w.heap.size w w' := by
  have hx' := hx
  unfold maxLen at hx'
  rcases hf : wof xs with _ | t
  · rw [show oThrough xs = (0, false) by simp [oThrough, hf]]
    have H := Lib.hid hf
    clear hf
    go_enter Tryz.func106, Tryz.ntmps106
    go_wp2_with (go_at_call 148; refine (sWordOf_calls A c xs _ ha hx).mono ?_; rintro e w' ⟨he, rfl⟩; rw [H.out] at he; simp only [resW] at he; subst he)
    go_ret2
    exact ⟨rfl, Below.refl _ _⟩
  obtain ⟨wt1, wt2⟩ := wof_is hf
  by_cases h5 : xs.length = 5
  · have hl := oWith_five wt1 (by omega)
    rw [show oThrough xs = ((oWith t).getD 0 0, true) by simp [oThrough, hf, h5]]
    have H := Lib.hid hf
    have HW := Lib.hid (l4With_calls t · wt1)
    have HS := Lib.hid (sWordOf_calls A c xs w ha hx)
    rw [h5] at HS ⊢
    clear hf wt2 h5 hx hx' ha
    generalize oWith t = L at *
    obtain ⟨y, hy⟩ : ∃ y, L.getD 0 0 = y := ⟨_, rfl⟩
    rw [hy]
    have HY := Lib.hid hy
    clear hy
    go_enter Tryz.func106, Tryz.ntmps106
    go_wp2_with fail
    refine HS.out.mono ?_
    rintro e w' ⟨he, rfl⟩
    rw [H.out] at he
    simp only [resW] at he
    subst he
    go_wp2_with fail
    refine (HW.out _).mono ?_
    rintro e w1 ⟨v, rfl, o1, b1⟩
    obtain ⟨g, cc, rfl⟩ : ∃ g cc, v = .slice (some ⟨g, 0, none⟩) 1 cc := by
      rcases o1.form with ⟨_, h0⟩ | ⟨g, cap, h0, _⟩
      · rw [h0] at hl; simp at hl
      · rw [hl] at h0; exact ⟨g, cap, h0⟩
    have hc0 := o1.cell (j := 0) (by omega)
    rw [HY.out] at hc0
    go_wp2_with fail
    go_ret2
    exact ⟨rfl, b1⟩
  · rw [show oThrough xs = (0, false) by simp [oThrough, hf, h5]]
    have h51 : ((xs.length : Int) != 5) = true := by simp; omega
    have H := Lib.hid hf
    clear hf h5
    go_enter Tryz.func106, Tryz.ntmps106
    go_wp2_with (go_at_call 148; refine (sWordOf_calls A c xs _ ha hx).mono ?_; rintro e w' ⟨he, rfl⟩; rw [H.out] at he; simp only [resW] at he; subst he)
    go_ret2
    exact ⟨rfl, Below.refl _ _⟩
end Go.Proofs.YtcfhfllcdliaoaaGreatDoor