/- Sorting by halves, of the model. -/
import Derived.Test.YtcfhfllcdliaoaaGreatDoorQ3
import Derived.Test.YtcfhfllcdliaoaaGreatDoorP3
namespace Go.Proofs.YtcfhfllcdliaoaaGreatDoor
open Go.RowKit
set_option linter.unusedVariables false

theorem pair_small {xs : List Int} (h : xs.length < 2) : xs.Pairwise (· ≤ ·) := by
  match xs, h with
  | [], _ => exact .nil
  | [x], _ => simp
theorem Rds.takeN {w : World} {B : Nat} {b o h : Nat} {xs : List Int} (hb : b < B) (hc : ∀ j, j < xs.length → w.cell? ⟨b, o + j, none⟩ = some (.int .i64 (xs.getD j 0))) (hh : h ≤ xs.length) : Rds w B .i64 (some ⟨b, o, none⟩) (xs.take h) := by
  refine .inr ⟨b, o, rfl, hb, fun j hj => ?_⟩
  have hj' : j < h := by simp at hj; omega
  rw [hc j (by omega)]
  simp [List.getD_eq_getElem?_getD, hj']
theorem Rds.dropN {w : World} {B : Nat} {b o h : Nat} {xs : List Int} (hb : b < B) (hc : ∀ j, j < xs.length → w.cell? ⟨b, o + j, none⟩ = some (.int .i64 (xs.getD j 0))) : Rds w B .i64 (some ⟨b, o + h, none⟩) (xs.drop h) := by
  refine .inr ⟨b, o + h, rfl, hb, fun j hj => ?_⟩
  have hj' : h + j < xs.length := by simp at hj; omega
  have e : o + h + j = o + (h + j) := by omega
  rw [e, hc (h + j) hj']
  simp [List.getD_eq_getElem?_getD]
theorem own_pushed {w : World} {B : Nat} {v : Value} {zs : List Int} {x : Int} (h : Own w B v (zs ++ [x])) : ∃ g c, v = .slice (some ⟨g, 0, none⟩) (zs ++ [x]).length c := by
  rcases h.form with ⟨_, h1⟩ | ⟨g, c, h1, _⟩
  · simp at h1
  · exact ⟨g, c, h1⟩
theorem own_caps {w : World} {B : Nat} {A : Option Addr} {n c : Nat} {xs : List Int} (h : Own w B (.slice A n c) xs) : xs.length ≤ c ∧ c ≤ maxLen := by
  rcases h.form with ⟨h1, h0⟩ | ⟨g, cap, h1, _, _, h2, h3⟩
  · simp only [Value.slice.injEq] at h1
    obtain ⟨_, _, rfl⟩ := h1
    rw [h0]
    exact ⟨Nat.le_refl _, by unfold maxLen; omega⟩
  · simp only [Value.slice.injEq] at h1
    obtain ⟨_, _, rfl⟩ := h1
    exact ⟨h2, h3⟩
theorem own_lo {w : World} {B g : Nat} {n c : Nat} {xs : List Int} (h : Own w B (.slice (some ⟨g, 0, none⟩) n c) xs) : B ≤ g := by
  rcases h.form with ⟨h1, _⟩ | ⟨g', cap, h1, h2, _⟩
  · simp at h1
  · simp only [Value.slice.injEq, Option.some.injEq, Addr.mk.injEq] at h1
    obtain ⟨⟨rfl, _⟩, _⟩ := h1
    exact h2
theorem own_lo' {w : World} {B : Nat} {A : Option Addr} {n c : Nat} {xs : List Int} (h : Own w B (.slice A n c) xs) : ∀ ad, A = some ad → B ≤ ad.block := by
  rintro ad rfl
  rcases h.form with ⟨h1, _⟩ | ⟨g', cap, h1, h2, _⟩
  · simp at h1
  · simp only [Value.slice.injEq, Option.some.injEq] at h1
    obtain ⟨rfl, _⟩ := h1
    exact h2
theorem below_drewN_trans {A C D : World} {B n : Nat} (h : Below B A C) (k : Below B (C.drewN n) D) : Below B A D := (below_drewN h n).trans k
set_option maxRecDepth 100000 in
set_option maxHeartbeats 4000000 in
theorem l4Sort_calls : ∀ (n : Nat) (xs : List Int) (A : Option Addr) (c : Nat) (w : World), xs.length = n → n ≤ 4096 → n ≤ c → c ≤ maxLen → Rds w w.heap.size .i64 A xs →
    Calls Tryz.prog 143 #[.slice A n c] w fun e w' => ∃ A' c' ys, e = .returned (.slice A' n c') ∧ ys.Perm xs ∧ ys.Pairwise (· ≤ ·) ∧ n ≤ c' ∧ c' ≤ maxLen ∧ Rds w' w'.heap.size .i64 A' ys ∧ (∀ ad, A' = some ad → A = some ad ∨ w.heap.size ≤ ad.block) ∧ Below w.heap.size w w' ∧ (2 ≤ n → Own w' w.heap.size (.slice A' n c') ys) := by
  intro n
  induction n using Nat.strongRecOn
  rename_i n ih
  intro xs A c w hn hN hc hcm hr
  by_cases h2 : n < 2
  · go_enter Tryz.func143, Tryz.ntmps143
    go_wp2_with fail
    go_ret
    exact ⟨A, c, xs, rfl, .refl _, pair_small (by omega), hc, hcm, hr, fun ad h => .inl h, Below.refl _ _, fun h => absurd h (by omega)⟩
  obtain ⟨b, o, rfl, hb, hcell⟩ : ∃ b o, A = some ⟨b, o, none⟩ ∧ b < w.heap.size ∧ ∀ j, j < xs.length → w.cell? ⟨b, o + j, none⟩ = some (.int .i64 (xs.getD j 0)) := by
    rcases hr with h | h
    · rw [h] at hn; simp at hn; omega
    · exact h
  obtain ⟨h, hh⟩ : ∃ h, h = n / 2 := ⟨_, rfl⟩
  have q1 := ih h (by omega) (xs.take h) (some ⟨b, o, none⟩) c w (by simp; omega) (by omega) (by omega) hcm (Rds.takeN hb hcell (by omega))
  have q2 := fun W (hW : Below w.heap.size w W) => ih (n - h) (by omega) (xs.drop h) (some ⟨b, o + h, none⟩) (c - h) W (by simp; omega) (by omega) (by omega) (by omega) (((Rds.dropN (h := h) hb hcell).below hW).more hW.size)
  have HQ1 := Lib.hid q1
  have HQ2 := Lib.hid q2
  have hq : (n : Int) / 2 = (h : Int) := by omega
  have hq0 : (0 : Int) ≤ (h : Int) := by omega
  have hn0 : (0 : Int) ≤ (n : Int) := by omega
  have hn1 : (n : Int) ≤ 4096 := by omega
  have hq1 : (h : Int) ≤ (n : Int) := by omega
  have hq2 : (n : Int) ≤ (c : Int) := by omega
  have hq3 : (h : Int) ≤ (c : Int) := by omega
  have hne : ¬ c = h := by omega
  have h2' : ¬ (n : Int) < 2 := by omega
  have hh1 : 2 * h ≤ n := by omega
  have hh2 : n ≤ 2 * h + 1 := by omega
  clear ih q1 q2 hcell hr hh
  go_enter Tryz.func143, Tryz.ntmps143
  go_wp2_with fail
  refine HQ1.out.mono ?_
  rintro e w1 ⟨A1, c1, ys1, rfl, p1, s1, l1, m1, r1, _, b1, _⟩
  go_wp2_with fail
  refine (HQ2.out _ b1).mono ?_
  rintro e w2 ⟨A2, c2, ys2, rfl, p2, s2, l2, m2, r2, _, b2, _⟩
  have HB := Lib.hid (b1.trans (b2.mono b1.size))
  have R1 := Lib.hid ((r1.below b2).more b2.size)
  have R2 := Lib.hid r2
  have hl1 : ys1.length = h := by rw [p1.length_eq]; simp; omega
  have hl2 : ys2.length = n - h := by rw [p2.length_eq]; simp; omega
  have hPM : (mrg ys1 ys2).Perm xs := (mrg_perm ys1 ys2).trans ((p1.append p2).trans (by rw [List.take_append_drop]))
  have HPM := Lib.hid hPM
  have HPS := Lib.hid (mrg_pair s1 s2)
  have HLM := Lib.hid (mrg_len ys1 ys2)
  have HO := Lib.hid (own_empty w2 w2.heap.size (Nat.le_refl _))
  clear b1 b2 r1 r2 p1 p2 s1 s2 hPM
  go_wp2_with fail
  go_loopw [5, 6, 7] (fun v i k wr => ∃ (p q : Nat) (zs : List Int), p ≤ h ∧ q ≤ n - h ∧ i = .int .i64 p ∧ k = .int .i64 q ∧ zs.length = p + q ∧ (∃ g cc, v = .slice (some ⟨g, 0, none⟩) zs.length cc) ∧ Hid (zs ++ mrg (ys1.drop p) (ys2.drop q) = mrg ys1 ys2) ∧ Hid (Own wr w2.heap.size v zs) ∧ Hid (Below w2.heap.size w2 wr)) (fun _ i k _ => n - ((intOf i).toNat + (intOf k).toNat))
  case atStart => exact ⟨0, 0, [], by omega, by omega, rfl, rfl, rfl, ⟨_, _, rfl⟩, Lib.hid (by simp), HO, Lib.hid ((Below.refl _ _).alloc (Nat.le_refl _) _)⟩
  case round =>
    obtain ⟨p, q, zs, hp, hqq, rfl, rfl, hzl, ⟨g, cc, rfl⟩, hM, ho, hbl⟩ := hrel
    have hzle : zs.length ≤ 1048576 := by omega
    have HZ := Lib.hid hzl
    clear hzl
    by_cases hA : p < h
    · obtain ⟨b1, o1, rfl, hb1, hc1⟩ := (R1.out.below hbl.out).at_ (j := p) (by omega)
      by_cases hB : q < n - h
      · obtain ⟨b2, o2, rfl, hb2, hc2⟩ := (R2.out.below hbl.out).at_ (j := q) (by omega)
        have hqm : ((q : Int) == ((n - h : Nat) : Int)) = false := by simp; omega
        by_cases hle : ys1.getD p 0 ≤ ys2.getD q 0
        · have HN := Lib.hid (mrg_takeA (by omega) (by omega) (.inr ⟨by omega, hle⟩) hM.out)
          generalize ys1.getD p 0 = x at *
          generalize ys2.getD q 0 = y at *
          go_wp2_with fail
          go_quiet (fail)
          go_wp2_with (at_builtin; refine wpList_push rfl _ _ rfl _ w2.heap.size _ _ _ _ rfl rfl (by exact ho.out) (by omega) (by exact hbl.out.size) ?_; intro v2 w3 ho2 hb2 _)
          go_roundw
          case rel => exact ⟨p + 1, q, zs ++ [x], by omega, by omega, by go_num, rfl, by have := HZ.out; simp; omega, own_pushed ho2, HN, Lib.hid ho2, Lib.hid (below_drewN_trans hbl.out hb2)⟩
          case measure => simp [intOf]; omega
        · have HN := Lib.hid (mrg_takeB (by omega) (by omega) (.inr ⟨by omega, hle⟩) hM.out)
          generalize ys1.getD p 0 = x at *
          generalize ys2.getD q 0 = y at *
          go_wp2_with fail
          go_quiet (fail)
          go_wp2_with (at_builtin; refine wpList_push rfl _ _ rfl _ w2.heap.size _ _ _ _ rfl rfl (by exact ho.out) (by omega) (by exact hbl.out.size) ?_; intro v2 w3 ho2 hb2 _)
          go_roundw
          case rel => exact ⟨p, q + 1, zs ++ [y], by omega, by omega, rfl, by go_num, by have := HZ.out; simp; omega, own_pushed ho2, HN, Lib.hid ho2, Lib.hid (below_drewN_trans hbl.out hb2)⟩
          case measure => simp [intOf]; omega
      · obtain rfl : q = n - h := by omega
        have HN := Lib.hid (mrg_takeA (by omega) (by omega) (.inl hl2.symm) hM.out)
        generalize ys1.getD p 0 = x at *
        go_wp2_with fail
        go_quiet (fail)
        go_wp2_with (at_builtin; refine wpList_push rfl _ _ rfl _ w2.heap.size _ _ _ _ rfl rfl (by exact ho.out) (by omega) (by exact hbl.out.size) ?_; intro v2 w3 ho2 hb2 _)
        go_roundw
        case rel => exact ⟨p + 1, n - h, zs ++ [x], by omega, by omega, by go_num, rfl, by have := HZ.out; simp; omega, own_pushed ho2, HN, Lib.hid ho2, Lib.hid (below_drewN_trans hbl.out hb2)⟩
        case measure => simp [intOf]; omega
    · obtain rfl : h = p := by omega
      by_cases hB : q < n - h
      · obtain ⟨b2, o2, rfl, hb2, hc2⟩ := (R2.out.below hbl.out).at_ (j := q) (by omega)
        have hqm : ((q : Int) == ((n - h : Nat) : Int)) = false := by simp; omega
        have HN := Lib.hid (mrg_takeB (by omega) (by omega) (.inl hl1.symm) hM.out)
        generalize ys2.getD q 0 = y at *
        go_wp2_with fail
        go_quiet (fail)
        go_wp2_with (at_builtin; refine wpList_push rfl _ _ rfl _ w2.heap.size _ _ _ _ rfl rfl (by exact ho.out) (by omega) (by exact hbl.out.size) ?_; intro v2 w3 ho2 hb2 _)
        go_roundw
        case rel => exact ⟨h, q + 1, zs ++ [y], by omega, by omega, rfl, by go_num, by have := HZ.out; simp; omega, own_pushed ho2, HN, Lib.hid ho2, Lib.hid (below_drewN_trans hbl.out hb2)⟩
        case measure => simp [intOf]; omega
      · obtain rfl : q = n - h := by omega
        have hzm : zs = mrg ys1 ys2 := by
          have := hM.out
          rw [List.drop_of_length_le (by omega), List.drop_of_length_le (by omega), nil_mrg, List.append_nil] at this
          exact this
        obtain ⟨q1, q2⟩ := own_caps ho.out
        have HZM := Lib.hid hzm
        clear hzm
        go_wp2_with fail
        have hzn : zs.length = n := by have := HZ.out; omega
        have HE := Lib.hid (show Value.slice (some ⟨g, 0, none⟩) zs.length cc = .slice (some ⟨g, 0, none⟩) n cc by rw [hzn])
        clear hzn
        go_ret
        exact ⟨some ⟨g, 0, none⟩, cc, zs, congrArg Ending.returned HE.out, by rw [HZM.out]; exact HPM.out, by rw [HZM.out]; exact HPS.out, by have := HZ.out; omega, q2, ho.out.rds, (fun ad h => by cases h; exact .inr (Nat.le_trans HB.out.size (own_lo ho.out))), HB.out.trans (hbl.out.mono HB.out.size), fun _ => by rw [← HE.out]; exact ho.out.weak HB.out.size⟩
end Go.Proofs.YtcfhfllcdliaoaaGreatDoor
