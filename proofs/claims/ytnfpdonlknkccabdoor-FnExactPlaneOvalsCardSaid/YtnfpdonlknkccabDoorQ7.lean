import Derived.Test.YtnfpdonlknkccabDoorC27
import Derived.Test.YtnfpdonlknkccabDoorC28
import Derived.Test.YtnfpdonlknkccabDoorQ2
import Derived.Test.YtnfpdonlknkccabDoorQ3
import Derived.Test.YtnfpdonlknkccabDoorP3
import Derived.Test.YtnfpdonlknkccabDoorQ1
import Derived.Maps.AppendAt
import Derived.Deep.QuietTactic
import Derived.BigQuiet
import Derived.Test.YtnfpdonlknkccabDoorW7
/- Octads: which numbers are octads; sums of two. -/
namespace Go.Proofs.YtnfpdonlknkccabDoor
open Go.RowKit
set_option linter.unusedVariables false

def oIn (n : Int) : Bool := cIn n && decide (wt n = 8)
def oPair (a b : Int) : Int × Bool := if oIn a && oIn b && decide (wt (xorI a b) = 8) then (xorI a b, true) else (0, false)
theorem oIn_w {n : Int} (h : oIn n = true) : IsW n ∧ codeInB n = true ∧ wt n = 8 := by
  simp only [oIn, cIn, Bool.and_eq_true, decide_eq_true_eq] at h
  exact ⟨(wordB_iff n).1 h.1.1, h.1.2, h.2⟩
theorem oIn_of {n : Int} (h : IsW n) : oIn n = (decide (wt n = 8) && codeInB n) := by
  simp only [oIn, cIn, (wordB_iff n).2 h, Bool.true_and]
  exact Bool.and_comm _ _
end Go.Proofs.YtnfpdonlknkccabDoor
/- All octads in a row, of the model: gathered, sorted by halves. -/
namespace Go.Proofs.YtnfpdonlknkccabDoor
open Go.RowKit
attribute [local irreducible] octS
set_option linter.unusedVariables false

theorem pair_small {xs : List Int} (h : xs.length < 2) : xs.Pairwise (· ≤ ·) := by
  match xs, h with
  | [], _ => exact .nil
  | [x], _ => simp
theorem Rds.takeN {w : World} {B : Nat} {b o h : Nat} {xs : List Int} (hb : b < B) (hc : ∀ j, j < xs.length → w.cell? ⟨b, o + j, none⟩ = some (.int .i64 (xs.getD j 0))) (hh : h ≤ xs.length) : Rds w B .i64 (some ⟨b, o, none⟩) (xs.take h) := by
  refine .inr ⟨b, o, rfl, hb, fun j hj => ?_⟩
  have hj' : j < h := by simp at hj; omega
  rw [hc j (by omega)]
  simp [List.getD_eq_getElem?_getD, hj']
theorem Rds.dropN {w : World} {B : Nat} {b o h : Nat} {xs : List Int} (hb : b < B) (hc : ∀ j, j < xs.length → w.cell? ⟨b, o + j, none⟩ = some (.int .i64 (xs.getD j 0))) : Rds w B .i64 (some ⟨b, o + h, none⟩) (xs.drop h) := by
  refine .inr ⟨b, o + h, rfl, hb, fun j hj => ?_⟩
  have hj' : h + j < xs.length := by simp at hj; omega
  have e : o + h + j = o + (h + j) := by omega
  rw [e, hc (h + j) hj']
  simp [List.getD_eq_getElem?_getD]
theorem own_pushed {w : World} {B : Nat} {v : Value} {zs : List Int} {x : Int} (h : Own w B v (zs ++ [x])) : ∃ g c, v = .slice (some ⟨g, 0, none⟩) (zs ++ [x]).length c := by
  rcases h.form with ⟨_, h1⟩ | ⟨g, c, h1, _⟩
  · simp at h1
  · exact ⟨g, c, h1⟩
theorem own_caps {w : World} {B : Nat} {A : Option Addr} {n c : Nat} {xs : List Int} (h : Own w B (.slice A n c) xs) : xs.length ≤ c ∧ c ≤ maxLen := by
  rcases h.form with ⟨h1, h0⟩ | ⟨g, cap, h1, _, _, h2, h3⟩
  · simp only [Value.slice.injEq] at h1
    obtain ⟨_, _, rfl⟩ := h1
    rw [h0]
    exact ⟨Nat.le_refl _, by unfold maxLen; omega⟩
  · simp only [Value.slice.injEq] at h1
    obtain ⟨_, _, rfl⟩ := h1
    exact ⟨h2, h3⟩
theorem own_lo {w : World} {B g : Nat} {n c : Nat} {xs : List Int} (h : Own w B (.slice (some ⟨g, 0, none⟩) n c) xs) : B ≤ g := by
  rcases h.form with ⟨h1, _⟩ | ⟨g', cap, h1, h2, _⟩
  · simp at h1
  · simp only [Value.slice.injEq, Option.some.injEq, Addr.mk.injEq] at h1
    obtain ⟨⟨rfl, _⟩, _⟩ := h1
    exact h2
theorem own_lo' {w : World} {B : Nat} {A : Option Addr} {n c : Nat} {xs : List Int} (h : Own w B (.slice A n c) xs) : ∀ ad, A = some ad → B ≤ ad.block := by
  rintro ad rfl
  rcases h.form with ⟨h1, _⟩ | ⟨g', cap, h1, h2, _⟩
  · simp at h1
  · simp only [Value.slice.injEq, Option.some.injEq] at h1
    obtain ⟨rfl, _⟩ := h1
    exact h2
theorem below_drewN_trans {A C D : World} {B n : Nat} (h : Below B A C) (k : Below B (C.drewN n) D) : Below B A D := (below_drewN h n).trans k
set_option maxRecDepth 100000 in
set_option maxHeartbeats 4000000 in
theorem l4Sort_calls : ∀ (n : Nat) (xs : List Int) (A : Option Addr) (c : Nat) (w : World), xs.length = n → n ≤ 4096 → n ≤ c → c ≤ maxLen → Rds w w.heap.size .i64 A xs →
    Calls Tryd.prog 27 #[.slice A n c] w fun e w' => ∃ A' c' ys, e = .returned (.slice A' n c') ∧ ys.Perm xs ∧ ys.Pairwise (· ≤ ·) ∧ n ≤ c' ∧ c' ≤ maxLen ∧ Rds w' w'.heap.size .i64 A' ys ∧ (∀ ad, A' = some ad → A = some ad ∨ w.heap.size ≤ ad.block) ∧ Below w.heap.size w w' ∧ (2 ≤ n → Own w' w.heap.size (.slice A' n c') ys) := by
  intro n
  induction n using Nat.strongRecOn
  rename_i n ih
  intro xs A c w hn hN hc hcm hr
  by_cases h2 : n < 2
  · go_enter Tryd.func27, Tryd.ntmps27
    go_wp2_with fail
    go_ret
    exact ⟨A, c, xs, rfl, .refl _, pair_small (by omega), hc, hcm, hr, fun ad h => .inl h, Below.refl _ _, fun h => absurd h (by omega)⟩
  obtain ⟨b, o, rfl, hb, hcell⟩ : ∃ b o, A = some ⟨b, o, none⟩ ∧ b < w.heap.size ∧ ∀ j, j < xs.length → w.cell? ⟨b, o + j, none⟩ = some (.int .i64 (xs.getD j 0)) := by
    rcases hr with h | h
    · rw [h] at hn; simp at hn; omega
    · exact h
  obtain ⟨h, hh⟩ : ∃ h, h = n / 2 := ⟨_, rfl⟩
  have q1 := ih h (by omega) (xs.take h) (some ⟨b, o, none⟩) c w (by simp; omega) (by omega) (by omega) hcm (Rds.takeN hb hcell (by omega))
  have q2 := fun W (hW : Below w.heap.size w W) => ih (n - h) (by omega) (xs.drop h) (some ⟨b, o + h, none⟩) (c - h) W (by simp; omega) (by omega) (by omega) (by omega) (((Rds.dropN (h := h) hb hcell).below hW).more hW.size)
  have HQ1 := Lib.hid q1
  have HQ2 := Lib.hid q2
  have hq : (n : Int) / 2 = (h : Int) := by omega
  have hq0 : (0 : Int) ≤ (h : Int) := by omega
  have hn0 : (0 : Int) ≤ (n : Int) := by omega
  have hn1 : (n : Int) ≤ 4096 := by omega
  have hq1 : (h : Int) ≤ (n : Int) := by omega
  have hq2 : (n : Int) ≤ (c : Int) := by omega
  have hq3 : (h : Int) ≤ (c : Int) := by omega
  have hne : ¬ c = h := by omega
  have h2' : ¬ (n : Int) < 2 := by omega
  have hh1 : 2 * h ≤ n := by omega
  have hh2 : n ≤ 2 * h + 1 := by omega
  clear ih q1 q2 hcell hr hh
  go_enter Tryd.func27, Tryd.ntmps27
  go_wp2_with fail
  refine HQ1.out.mono ?_
  rintro e w1 ⟨A1, c1, ys1, rfl, p1, s1, l1, m1, r1, _, b1, _⟩
  go_wp2_with fail
  refine (HQ2.out _ b1).mono ?_
  rintro e w2 ⟨A2, c2, ys2, rfl, p2, s2, l2, m2, r2, _, b2, _⟩
  have HB := Lib.hid (b1.trans (b2.mono b1.size))
  have R1 := Lib.hid ((r1.below b2).more b2.size)
  have R2 := Lib.hid r2
  have hl1 : ys1.length = h := by rw [p1.length_eq]; simp; omega
  have hl2 : ys2.length = n - h := by rw [p2.length_eq]; simp; omega
  have hPM : (mrg ys1 ys2).Perm xs := (mrg_perm ys1 ys2).trans ((p1.append p2).trans (by rw [List.take_append_drop]))
  have HPM := Lib.hid hPM
  have HPS := Lib.hid (mrg_pair s1 s2)
  have HLM := Lib.hid (mrg_len ys1 ys2)
  have HO := Lib.hid (own_empty w2 w2.heap.size (Nat.le_refl _))
  clear b1 b2 r1 r2 p1 p2 s1 s2 hPM
  go_wp2_with fail
  go_loopw [5, 6, 7] (fun v i k wr => ∃ (p q : Nat) (zs : List Int), p ≤ h ∧ q ≤ n - h ∧ i = .int .i64 p ∧ k = .int .i64 q ∧ zs.length = p + q ∧ (∃ g cc, v = .slice (some ⟨g, 0, none⟩) zs.length cc) ∧ Hid (zs ++ mrg (ys1.drop p) (ys2.drop q) = mrg ys1 ys2) ∧ Hid (Own wr w2.heap.size v zs) ∧ Hid (Below w2.heap.size w2 wr)) (fun _ i k _ => n - ((intOf i).toNat + (intOf k).toNat))
  case atStart => exact ⟨0, 0, [], by omega, by omega, rfl, rfl, rfl, ⟨_, _, rfl⟩, Lib.hid (by simp), HO, Lib.hid ((Below.refl _ _).alloc (Nat.le_refl _) _)⟩
  case round =>
    obtain ⟨p, q, zs, hp, hqq, rfl, rfl, hzl, ⟨g, cc, rfl⟩, hM, ho, hbl⟩ := hrel
    have hzle : zs.length ≤ 1048576 := by omega
    have HZ := Lib.hid hzl
    clear hzl
    by_cases hA : p < h
    · obtain ⟨b1, o1, rfl, hb1, hc1⟩ := (R1.out.below hbl.out).at_ (j := p) (by omega)
      by_cases hB : q < n - h
      · obtain ⟨b2, o2, rfl, hb2, hc2⟩ := (R2.out.below hbl.out).at_ (j := q) (by omega)
        have hqm : ((q : Int) == ((n - h : Nat) : Int)) = false := by simp; omega
        by_cases hle : ys1.getD p 0 ≤ ys2.getD q 0
        · have HN := Lib.hid (mrg_takeA (by omega) (by omega) (.inr ⟨by omega, hle⟩) hM.out)
          generalize ys1.getD p 0 = x at *
          generalize ys2.getD q 0 = y at *
          go_wp2_with fail
          go_quiet (fail)
          go_wp2_with (at_builtin; refine wpList_push rfl _ _ rfl _ w2.heap.size _ _ _ _ rfl rfl (by exact ho.out) (by omega) (by exact hbl.out.size) ?_; intro v2 w3 ho2 hb2 _)
          go_roundw
          case rel => exact ⟨p + 1, q, zs ++ [x], by omega, by omega, by go_num, rfl, by have := HZ.out; simp; omega, own_pushed ho2, HN, Lib.hid ho2, Lib.hid (below_drewN_trans hbl.out hb2)⟩
          case measure => simp [intOf]; omega
        · have HN := Lib.hid (mrg_takeB (by omega) (by omega) (.inr ⟨by omega, hle⟩) hM.out)
          generalize ys1.getD p 0 = x at *
          generalize ys2.getD q 0 = y at *
          go_wp2_with fail
          go_quiet (fail)
          go_wp2_with (at_builtin; refine wpList_push rfl _ _ rfl _ w2.heap.size _ _ _ _ rfl rfl (by exact ho.out) (by omega) (by exact hbl.out.size) ?_; intro v2 w3 ho2 hb2 _)
          go_roundw
          case rel => exact ⟨p, q + 1, zs ++ [y], by omega, by omega, rfl, by go_num, by have := HZ.out; simp; omega, own_pushed ho2, HN, Lib.hid ho2, Lib.hid (below_drewN_trans hbl.out hb2)⟩
          case measure => simp [intOf]; omega
      · obtain rfl : q = n - h := by omega
        have HN := Lib.hid (mrg_takeA (by omega) (by omega) (.inl hl2.symm) hM.out)
        generalize ys1.getD p 0 = x at *
        go_wp2_with fail
        go_quiet (fail)
        go_wp2_with (at_builtin; refine wpList_push rfl _ _ rfl _ w2.heap.size _ _ _ _ rfl rfl (by exact ho.out) (by omega) (by exact hbl.out.size) ?_; intro v2 w3 ho2 hb2 _)
        go_roundw
        case rel => exact ⟨p + 1, n - h, zs ++ [x], by omega, by omega, by go_num, rfl, by have := HZ.out; simp; omega, own_pushed ho2, HN, Lib.hid ho2, Lib.hid (below_drewN_trans hbl.out hb2)⟩
        case measure => simp [intOf]; omega
    · obtain rfl : h = p := by omega
      by_cases hB : q < n - h
      · obtain ⟨b2, o2, rfl, hb2, hc2⟩ := (R2.out.below hbl.out).at_ (j := q) (by omega)
        have hqm : ((q : Int) == ((n - h : Nat) : Int)) = false := by simp; omega
        have HN := Lib.hid (mrg_takeB (by omega) (by omega) (.inl hl1.symm) hM.out)
        generalize ys2.getD q 0 = y at *
        go_wp2_with fail
        go_quiet (fail)
        go_wp2_with (at_builtin; refine wpList_push rfl _ _ rfl _ w2.heap.size _ _ _ _ rfl rfl (by exact ho.out) (by omega) (by exact hbl.out.size) ?_; intro v2 w3 ho2 hb2 _)
        go_roundw
        case rel => exact ⟨h, q + 1, zs ++ [y], by omega, by omega, rfl, by go_num, by have := HZ.out; simp; omega, own_pushed ho2, HN, Lib.hid ho2, Lib.hid (below_drewN_trans hbl.out hb2)⟩
        case measure => simp [intOf]; omega
      · obtain rfl : q = n - h := by omega
        have hzm : zs = mrg ys1 ys2 := by
          have := hM.out
          rw [List.drop_of_length_le (by omega), List.drop_of_length_le (by omega), nil_mrg, List.append_nil] at this
          exact this
        obtain ⟨q1, q2⟩ := own_caps ho.out
        have HZM := Lib.hid hzm
        clear hzm
        go_wp2_with fail
        have hzn : zs.length = n := by have := HZ.out; omega
        have HE := Lib.hid (show Value.slice (some ⟨g, 0, none⟩) zs.length cc = .slice (some ⟨g, 0, none⟩) n cc by rw [hzn])
        clear hzn
        go_ret
        exact ⟨some ⟨g, 0, none⟩, cc, zs, congrArg Ending.returned HE.out, by rw [HZM.out]; exact HPM.out, by rw [HZM.out]; exact HPS.out, by have := HZ.out; omega, q2, ho.out.rds, (fun ad h => by cases h; exact .inr (Nat.le_trans HB.out.size (own_lo ho.out))), HB.out.trans (hbl.out.mono HB.out.size), fun _ => by rw [← HE.out]; exact ho.out.weak HB.out.size⟩
set_option maxRecDepth 100000 in
set_option maxHeartbeats 2000000 in
theorem l4All_calls (w : World) :
    Calls Tryd.prog 26 #[] w fun e w' => ∃ A c, e = .returned (.slice A 759 c) ∧ 759 ≤ c ∧ c ≤ maxLen ∧ Rds w' w'.heap.size .i64 A octS ∧ (∀ ad, A = some ad → w.heap.size ≤ ad.block) ∧ Below w.heap.size w w' := by
  have HO := Lib.hid (own_empty w w.heap.size (Nat.le_refl _))
  go_enter Tryd.func26, Tryd.ntmps26
  go_wp2
  go_loopw [1, 2] (fun v i wr => ∃ k : Nat, k ≤ 4096 ∧ i = .int .i64 k ∧ Hid (Own wr w.heap.size v (octF k)) ∧ Hid (Below w.heap.size w wr)) (fun _ i _ => 4096 - (intOf i).toNat)
  case atStart => exact ⟨0, by omega, rfl, HO, Lib.hid ((Below.refl _ _).alloc (Nat.le_refl _) _)⟩
  case round =>
    obtain ⟨k, hk, rfl, ho, hb⟩ := hrel
    clear HO
    by_cases hlt : k < 4096
    · have hl := octF_len k
      have HS := Lib.hid (show octF (k + 1) = if wt (codeOf k) = 8 then octF k ++ [codeOf k] else octF k from rfl)
      have hx := codeOf_range (k : Int)
      generalize octF k = L at *
      generalize hC : codeOf (k : Int) = x at *
      have HC := Lib.hid hC
      clear hC
      by_cases h8 : wt x = 8
      · have H8 := Lib.hid h8
        rw [if_pos h8] at HS
        clear h8
        go_wp2_with (first
          | (go_at_call 39; refine (l3Of_calls _ _ (by omega) (by omega)).mono ?_; rintro e w1 ⟨he, b1⟩; rw [HC.out] at he; subst he)
          | (go_at_call 33; refine (l1Weight_calls _ _).mono ?_; rintro e w' ⟨he, rfl⟩; rw [H8.out] at he; subst he)
          | (at_builtin; refine wpList_push rfl _ _ rfl w1 w.heap.size _ _ _ _ rfl rfl (by exact ho.out.below b1) (by omega) (Nat.le_trans hb.out.size b1.size) ?_; intro v2 w2 ho2 hb2 _))
        rw [← HS.out] at ho2
        go_roundw
        case rel => exact ⟨k + 1, by omega, by go_num, Lib.hid ho2, Lib.hid ((hb.out.trans (b1.mono hb.out.size)).trans hb2)⟩
        case measure => simp [intOf]; omega
      · rw [if_neg h8] at HS
        have h81 : (wt x == 8) = false := by simpa using h8
        clear h8
        generalize hq : wt x = q at *
        have HQ := Lib.hid hq
        clear hq
        go_wp2_with (first
          | (go_at_call 39; refine (l3Of_calls _ _ (by omega) (by omega)).mono ?_; rintro e w1 ⟨he, b1⟩; rw [HC.out] at he; subst he)
          | (go_at_call 33; refine (l1Weight_calls _ _).mono ?_; rintro e w' ⟨he, rfl⟩; rw [HQ.out] at he; subst he))
        go_roundw
        case rel => exact ⟨k + 1, by omega, by go_num, by rw [HS.out]; exact Lib.hid (ho.out.below b1), Lib.hid (hb.out.trans (b1.mono hb.out.size))⟩
        case measure => simp [intOf]; omega
    · obtain rfl : k = 4096 := by omega
      obtain ⟨k, hk⟩ : ∃ k, k = 4096 := ⟨_, rfl⟩
      rw [← hk] at ho
      have hl := octF_len k
      have HE := Lib.hid (octs_eq k hk)
      have HN := Lib.hid octS_759
      generalize octF k = L at *
      obtain ⟨A, c, rfl⟩ := ho.out.slice
      obtain ⟨q1, q2⟩ := own_caps ho.out
      go_wp2_with fail
      refine (l4Sort_calls L.length L A c wr rfl (by omega) q1 q2 ho.out.rds).mono ?_
      have HLO := Lib.hid (own_lo' ho.out)
      rintro e w1 ⟨A', c', ys, rfl, p1, s1, l1, m1, r1, a1, b1, _⟩
      have hys := HE.out ys p1 s1
      have hn : L.length = 759 := by rw [← p1.length_eq, hys]; exact HN.out
      rw [hys] at r1
      rw [hn] at l1
      go_wp2_with fail
      go_ret
      exact ⟨A', c', by first | rfl | rw [hn], l1, m1, r1, (fun ad h => by rcases a1 ad h with h | h; exact HLO.out ad h; exact Nat.le_trans hb.out.size h), hb.out.trans (b1.mono hb.out.size)⟩
end Go.Proofs.YtnfpdonlknkccabDoor
/- Octads of the model: through places, counted, met, dodecads. -/
namespace Go.Proofs.YtnfpdonlknkccabDoor
open Go.RowKit
set_option linter.unusedVariables false
attribute [local irreducible] octS cN octF

theorem wof_is {xs : List Int} {t : Int} (h : wof xs = some t) : IsW t ∧ wt t = xs.length := by
  have := wof_char _ xs t rfl h
  exact ⟨this.1, this.2.2.2.1⟩
def oThrough (xs : List Int) : Int × Bool := match wof xs with
  | some t => if xs.length = 5 then ((oWith t).getD 0 0, true) else (0, false)
  | none => (0, false)
def oList (xs : List Int) : List Int × Bool := match wof xs with
  | some t => if 3 ≤ xs.length ∧ xs.length ≤ 8 then (oWith t, true) else ([], false)
  | none => ([], false)
def oCount (a b : Int) : Int × Bool := if wordB a && wordB b then (((octS.countP (oC a b) : Nat) : Int), true) else (0, false)
def oMeet (w : Int) : List Int × Bool := if oIn w then (cnt9 w octS, true) else ([], false)
def oDod (w : Int) : Int × Int × Bool := if cIn w && decide (wt w = 12) then (leastD w, xorI w (leastD w), true) else (0, 0, false)
theorem oWith_five {t : Int} (h : IsW t) (h5 : wt t = 5) : (oWith t).length = 1 := by
  obtain ⟨T, rfl⟩ := Int.eq_ofNat_of_zero_le h.1
  rw [oWith_thr]
  rw [wt_pop] at h5
  have := h.2
  exact thr5 T (by omega) (by omega)
theorem and_i64w (x W : Int) (hx : 0 ≤ x ∧ x ≤ 16777215) (hW : IsW W) : bits .and .i64 x W = andI x W := and_i64 x W hx.1 (by omega) hW.1 (by have := hW.2; omega)
/-- An append of one element, with where the new slice lies. -/
theorem wpList_pushAt {ops : Array Oper} {rest : List Oper} {o : Oper} {a : Act} {Q : Exit → Act → World → Prop} (hgd : o.guard = none) (s y : Operand)
    (ho : o.op = .call { callee := .builtin .append, args := #[s, y], argTypes := #[22, 22] })
    (w : World) (B : Nat) (v : Value) (xs : List Int) (x : Int) (c : Nat) (hs : a.eval s = v) (hy : a.eval y = .slice (some ⟨w.heap.size, 0, none⟩) 1 c)
    (hown : Own w B v xs) (hlen : xs.length ≤ 1048576) (hB : B ≤ w.heap.size)
    (h : ∀ v' w', Own w' B v' (xs ++ [x]) → Below B w w' → w.grownBy w' v.ownBlock → (∀ k, v'.ownBlock = some k → v.ownBlock = some k ∨ w.heap.size ≤ k) → wpList Tryd.prog ops Q rest (a.put o.dst v') w') :
    wpList Tryd.prog ops Q (o :: rest) a (w.alloc (.cells #[.int .i64 x] 3)) := by
  obtain ⟨i0, hi, hz0, hz1, hz2⟩ := info_parts intRow
  refine wpList_append_own_at _ hgd s y 22 ho B 3 i0 (.int .i64 0) 1 8 Tryd.underlying22 hi hz0 hz1 hz2 rfl (by decide) v xs.length (vals .i64 xs) hs
    (World.ownsRow.alloc hown _) ⟨w.heap.size, 0, none⟩ 1 c [.int .i64 x] hy rfl ?_ ?_ (by unfold maxLen; omega) (by omega) (by simp; omega) ?_
  · intro j u hj
    match j, hj with
    | 0, hj => simp at hj; subst hj; simp [Addr.add]
  · intro u hu; simp at hu; subst hu; rfl
  · intro v' w' h1 h2 _ h3
    have hg : w.grownBy w' v.ownBlock := grown_trans (World.grownBy_alloc w _ _) h2
    refine h v' w' ?_ ((Below.refl B w).grown hg hB (own_row_ge hown)) hg ?_
    · unfold Own
      rw [vals_append, show vals .i64 [x] = [Value.int .i64 x] from rfl]
      simpa using h1
    · intro k hk
      rcases h3 with h3 | h3
      · exact .inl (h3 ▸ hk)
      · rw [h3] at hk
        simp at hk
        exact .inr (by omega)
theorem Rds.apart {w w' : World} {B : Nat} {k : IntKind} {A : Option Addr} {xs : List Int} (h : Rds w B k A xs) {row : Option Nat} (hg : w.grownBy w' row) (hB : B ≤ w.heap.size) (hr : ∀ ad, A = some ad → row ≠ some ad.block) : Rds w' B k A xs := by
  rcases h with rfl | ⟨b, o, h1, h2, h3⟩
  · exact .inl rfl
  · exact .inr ⟨b, o, h1, h2, fun j hj => (World.cell?_of_block (hg.block b (by omega) (fun e => hr _ h1 e.symm))).trans (h3 j hj)⟩
theorem Rds.setFar {w : World} {B : Nat} {k : IntKind} {A : Option Addr} {xs : List Int} (h : Rds w B k A xs) {p : Addr} (hr : ∀ ad, A = some ad → p.block ≠ ad.block) (u : Value) : Rds (w.setCell p u) B k A xs := by
  rcases h with rfl | ⟨b, o, h1, h2, h3⟩
  · exact .inl rfl
  · exact .inr ⟨b, o, h1, h2, fun j hj => (World.cell?_setCell_other w p _ u (fun e => hr _ h1 (by rw [e]))).trans (h3 j hj)⟩
set_option maxRecDepth 100000 in
set_option maxHeartbeats 2000000 in
theorem l4With_calls (W : Int) (w : World) (hW : IsW W) :
    Calls Tryd.prog 34 #[.int .i64 W] w fun e w' => ∃ v, e = .returned v ∧ Own w' w.heap.size v (oWith W) ∧ Below w.heap.size w w' := by
  have HO := Lib.hid (own_empty w w.heap.size (Nat.le_refl _))
  go_enter Tryd.func34, Tryd.ntmps34
  go_wp2_with fail
  refine (l4All_calls _).mono ?_
  rintro e w1 ⟨A, c, rfl, q1, q2, r1, a1, b1⟩
  have HB := Lib.hid (((Below.refl w.heap.size w).alloc (Nat.le_refl _) (.cells #[] 3)).trans (b1.mono (by simp)))
  have HO1 := Lib.hid (HO.out.below b1)
  have HR := Lib.hid r1
  have hs1 : w.heap.size < w1.heap.size := by have := b1.size; simp at this; omega
  have HA := Lib.hid (show ∀ ad, A = some ad → w.heap.size < ad.block from fun ad h => by have := a1 ad h; simp at this; omega)
  have HAU := Lib.hid (show ∀ ad, A = some ad → ad.block < w1.heap.size from fun ad h => by
    obtain ⟨b, o, e, hb, _⟩ := r1.at_ (j := 0) (by rw [octS_759]; decide)
    rw [e] at h; cases h; exact hb)
  clear b1 r1 HO a1
  go_wp2_with fail
  go_loopw [3, 5] (fun v i wr => ∃ k : Nat, k ≤ 759 ∧ i = .int .i64 k ∧ Hid (Own wr w.heap.size v ((octS.take k).filter fun x => andI x W == W)) ∧ Hid (Rds wr w1.heap.size .i64 A octS) ∧ Hid (∀ j, v.ownBlock = some j → j = w.heap.size ∨ w1.heap.size ≤ j) ∧ Hid (Below w.heap.size w wr) ∧ w1.heap.size ≤ wr.heap.size) (fun _ i _ => 759 - (intOf i).toNat)
  case atStart => exact ⟨0, by omega, rfl, HO1, HR, Lib.hid (fun j h => by simp [Value.ownBlock] at h; omega), HB, Nat.le_refl _⟩
  case round =>
    obtain ⟨k, hk, rfl, ho, hr, hj, hb, hz⟩ := hrel
    by_cases hlt : k < 759
    · have HS := Lib.hid (show (octS.take (k + 1)).filter (fun x => andI x W == W) = if andI (octS.getD k 0) W == W then (octS.take k).filter (fun x => andI x W == W) ++ [octS.getD k 0] else (octS.take k).filter (fun x => andI x W == W) by rw [oct_take k hlt, filter_snoc])
      obtain ⟨b, o, rfl, hb1, hc⟩ := hr.out.at_ (j := k) (by rw [octS_759]; exact hlt)
      have hx := (oct_at k hlt).rng
      have hl : ((octS.take k).filter fun x => andI x W == W).length ≤ 759 := by
        have h1 := List.length_filter_le (fun x => andI x W == W) (octS.take k)
        have h2 := List.length_take_le k octS
        omega
      have hq1 : (0 : Int) ≤ (k : Int) := by omega
      have hq2 : (k : Int) < 759 := by omega
      generalize octS.getD k 0 = x at *
      have hxw := and_i64w x W hx hW
      generalize (octS.take k).filter (fun x => andI x W == W) = L at *
      cases hP : andI x W == W
      · have HS2 := Lib.hid (show (octS.take (k + 1)).filter (fun x => andI x W == W) = L by rw [HS.out, hP]; rfl)
        go_wp2_with fail
        go_roundw
        case rel => exact ⟨k + 1, by omega, by go_num, by rw [HS2.out]; exact ho, hr, hj, hb, hz⟩
        case measure => simp [intOf]; omega
      · have HS2 := Lib.hid (show (octS.take (k + 1)).filter (fun x => andI x W == W) = L ++ [x] by rw [HS.out, hP]; rfl)
        go_wp2_with (at_builtin; refine wpList_pushAt rfl _ _ rfl _ w.heap.size _ _ _ _ rfl rfl (by exact ho.out) (by omega) (by omega) ?_; intro v2 w2 ho2 hb2 hg2 hat)
        go_roundw
        case rel =>
          refine ⟨k + 1, by omega, by go_num, by rw [HS2.out]; exact Lib.hid ho2, Lib.hid (hr.out.apart hg2 hz fun ad h e => ?_), Lib.hid (fun j h => ?_), Lib.hid (hb.out.trans hb2), Nat.le_trans hz hg2.size⟩
          · have h1 := HA.out ad h
            have h2 := HAU.out ad h
            rcases hj.out _ e with h3 | h3 <;> omega
          · rcases hat j h with h1 | h1
            · exact hj.out j h1
            · exact .inr (by omega)
        case measure => simp [intOf]; omega
    · obtain rfl : k = 759 := by omega
      have HE := Lib.hid (show (octS.take 759).filter (fun x => andI x W == W) = oWith W by rw [oct_take_all]; rfl)
      rw [HE.out] at ho
      go_wp2_with fail
      go_ret
      exact ⟨_, rfl, ho.out, hb.out⟩
end Go.Proofs.YtnfpdonlknkccabDoor