/- Planes of the model: bases, lines. -/
import Derived.Test.YtmeejnkpaiinaacGreatDoorQ7
import Derived.Test.YtmeejnkpaiinaacGreatDoorM29
namespace Go.Proofs.YtmeejnkpaiinaacGreatDoor
open Go.RowKit
set_option linter.unusedVariables false
attribute [local irreducible] octS cN octF syn

theorem oWith_W {t x : Int} (h : x ∈ oWith t) : IsW x := ⟨(oWith_mem.1 h).1.rng.1, (oWith_mem.1 h).1.rng.2⟩
theorem oWith_bs {B : Nat} (hB : IsBase B) : (oWith (B : Int)).length = 21 := by rw [oWith_thr]; exact thr3 B hB.1 hB.2
theorem l6pBase_yes (b : Int) (h : baseB b = true) (w : World) : Calls Tryz.prog 56 #[.int .i64 b] w fun e w' => e = .returned (.bool true) ∧ w = w' := by
  obtain ⟨B, rfl, hB⟩ := baseB_nat h
  have wB : IsW (B : Int) := ⟨by omega, by have := hB.1; omega⟩
  have H3 := Lib.hid (show wt (B : Int) = 3 by rw [wt_pop, hB.2]; rfl)
  clear h
  generalize (B : Int) = b at *
  go_enter Tryz.func56, Tryz.ntmps56
  go_wp2_with (first
    | (go_at_call 65; refine (sWordValid_ok b _ wB.1 wB.2).mono ?_; rintro e w' ⟨rfl, rfl⟩)
    | (go_at_call 66; refine (l1Weight_calls b _).mono ?_; rintro e w' ⟨he, rfl⟩; rw [H3.out] at he; subst he))
  go_ret
  exact ⟨rfl, rfl⟩
theorem l6pBase_no (b : Int) (h : baseB b = false) (w : World) : Calls Tryz.prog 56 #[.int .i64 b] w fun e w' => e = .returned (.bool false) ∧ w = w' := by
  rcases hw : wordB b with _ | _
  · have hn := (wordB_no b).1 hw
    clear hw h
    go_enter Tryz.func56, Tryz.ntmps56
    go_wp2_with (go_at_call 65; refine (sWordValid_no b _ hn).mono ?_; rintro e w' ⟨rfl, rfl⟩)
    go_ret
    exact ⟨rfl, rfl⟩
  · have wB : IsW b := (wordB_iff b).1 hw
    have h3 : ¬ wt b = 3 := by simpa [baseB, hw] using h
    have h31 : (wt b == 3) = false := by simpa using h3
    clear hw h h3
    generalize hq : wt b = q at *
    have HQ := Lib.hid hq
    clear hq
    go_enter Tryz.func56, Tryz.ntmps56
    go_wp2_with (first
      | (go_at_call 65; refine (sWordValid_ok b _ wB.1 wB.2).mono ?_; rintro e w' ⟨rfl, rfl⟩)
      | (go_at_call 66; refine (l1Weight_calls b _).mono ?_; rintro e w' ⟨he, rfl⟩; rw [HQ.out] at he; subst he))
    go_ret
    exact ⟨rfl, rfl⟩
set_option maxRecDepth 100000 in
set_option maxHeartbeats 2000000 in
theorem l6pLines_calls (B : Nat) (hB : IsBase B) (w : World) :
    Calls Tryz.prog 58 #[.int .i64 (B : Int)] w fun e w' => ∃ v, e = .returned v ∧ Own w' w.heap.size v (lns (B : Int)) ∧ Below w.heap.size w w' := by
  have wB : IsW (B : Int) := ⟨by omega, by have := hB.1; omega⟩
  have HO := Lib.hid (own_empty w w.heap.size (Nat.le_refl _))
  have HL := Lib.hid (oWith_bs hB)
  have HX := Lib.hid (fun k (hk : k < 21) => show IsW ((oWith (B : Int)).getD k 0) from by
    rw [← getD_at _ k (by rw [oWith_bs hB]; exact hk)]
    exact oWith_W (List.getElem_mem _))
  have HW := Lib.hid (fun W => l4With_calls (B : Int) W wB)
  have HSX := Lib.hid (fun M (h1 : M.Perm ((oWith (B : Int)).map fun x => xorI x (B : Int))) h2 => show M = lns (B : Int) from sortI_eq h1 h2)
  generalize lns (B : Int) = R at *
  generalize oWith (B : Int) = L at *
  have HTK := Lib.hid (fun k (hk : k < 21) => show (L.take (k + 1)).map (fun x => xorI x (B : Int)) = (L.take k).map (fun x => xorI x (B : Int)) ++ [xorI (L.getD k 0) (B : Int)] by
    rw [tk_succ L k (by rw [HL.out]; exact hk), List.map_append]; rfl)
  have HLE := Lib.hid (fun k => show ((L.take k).map fun x => xorI x (B : Int)).length ≤ 21 by
    rw [List.length_map, List.length_take, HL.out]; omega)
  have HALL := Lib.hid (show L.take 21 = L from List.take_of_length_le (by rw [HL.out]; exact Nat.le_refl _))
  generalize (B : Int) = b at *
  go_enter Tryz.func58, Tryz.ntmps58
  go_wp2_with fail
  refine (HW.out _).mono ?_
  rintro e w1 ⟨v1, rfl, o1, b1⟩
  obtain ⟨A, c, rfl⟩ := o1.slice
  have HB := Lib.hid (((Below.refl w.heap.size w).alloc (Nat.le_refl _) (.cells #[] 3)).trans (b1.mono (by simp)))
  have HO1 := Lib.hid (HO.out.below b1)
  have HR := Lib.hid o1.rds
  have hs1 : w.heap.size < w1.heap.size := by have := b1.size; simp at this; omega
  have HA := Lib.hid (show ∀ ad, A = some ad → w.heap.size < ad.block from fun ad h => by have := own_lo' o1 ad h; simp at this; omega)
  have HAU := Lib.hid (show ∀ ad, A = some ad → ad.block < w1.heap.size from fun ad h => by
    obtain ⟨b, o, e, hb, _⟩ := o1.rds.at_ (j := 0) (by rw [HL.out]; decide)
    rw [e] at h; cases h; exact hb)
  clear b1 o1 HO
  rw [HL.out]
  go_wp2_with fail
  go_loopw [3, 5] (fun v i wr => ∃ k : Nat, k ≤ 21 ∧ i = .int .i64 k ∧ Hid (Own wr w.heap.size v ((L.take k).map fun x => xorI x b)) ∧ Hid (Rds wr w1.heap.size .i64 A L) ∧ Hid (∀ j, v.ownBlock = some j → j = w.heap.size ∨ w1.heap.size ≤ j) ∧ Hid (Below w.heap.size w wr) ∧ w1.heap.size ≤ wr.heap.size) (fun _ i _ => 21 - (intOf i).toNat)
  case atStart => exact ⟨0, by omega, rfl, HO1, HR, Lib.hid (fun j h => by simp [Value.ownBlock] at h; omega), HB, Nat.le_refl _⟩
  case round =>
    obtain ⟨k, hk, rfl, ho, hr, hj, hb, hz⟩ := hrel
    by_cases hlt : k < 21
    · have HS := Lib.hid (HTK.out k hlt)
      obtain ⟨bb, o, rfl, hb1, hc⟩ := hr.out.at_ (j := k) (by rw [HL.out]; exact hlt)
      have hx := HX.out k hlt
      have hl := HLE.out k
      have hq1 : (0 : Int) ≤ (k : Int) := by omega
      have hq2 : (k : Int) < 21 := by omega
      generalize L.getD k 0 = x at *
      have hxw : bits .xor .i64 x b = xorI x b := xor_i64 x b hx.1 (by have := hx.2; omega) wB.1 (by have := wB.2; omega)
      generalize (L.take k).map (fun x => xorI x b) = M at *
      go_wp2_with (at_builtin; refine wpList_pushAt rfl _ _ rfl _ w.heap.size _ _ _ _ rfl rfl (by exact ho.out) (by omega) (by omega) ?_; intro v2 w2 ho2 hb2 hg2 hat)
      go_roundw
      case rel =>
        refine ⟨k + 1, by omega, by go_num, by rw [HS.out]; exact Lib.hid ho2, Lib.hid (hr.out.apart hg2 hz fun ad h e => ?_), Lib.hid (fun j h => ?_), Lib.hid (hb.out.trans hb2), Nat.le_trans hz hg2.size⟩
        · have h1 := HA.out ad h
          have h2 := HAU.out ad h
          rcases hj.out _ e with h3 | h3 <;> omega
        · rcases hat j h with h1 | h1
          · exact hj.out j h1
          · exact .inr (by omega)
      case measure => simp [intOf]; omega
    · obtain rfl : k = 21 := by omega
      rw [HALL.out] at ho
      have hlen : (L.map fun x => xorI x b).length = 21 := by rw [List.length_map, HL.out]
      obtain ⟨A2, c2, rfl⟩ := ho.out.slice
      obtain ⟨q1, q2⟩ := own_caps ho.out
      have HLN := Lib.hid hlen
      rw [hlen] at q1
      have HSORT := Lib.hid (l4Sort_calls 21 (L.map fun x => xorI x b) A2 c2 wr hlen (by omega) q1 q2 ho.out.rds)
      clear hlen
      generalize (L.map fun x => xorI x b) = M at *
      rw [HLN.out]
      go_wp2_with fail
      refine HSORT.out.mono ?_
      rintro e w3 ⟨A', c', ys, rfl, p1, s1, l1, m1, r1, a1, b3, of⟩
      have hys := HSX.out ys p1 s1
      have ow := of (by omega)
      have hB3 := hb.out.trans (b3.mono hb.out.size)
      go_wp2_with fail
      go_ret
      rw [hys] at ow
      exact ⟨_, rfl, ow.weak hb.out.size, hB3⟩
end Go.Proofs.YtmeejnkpaiinaacGreatDoor
