/- The triangle of the model: the walk. -/
import Derived.Test.YtnfpdonlknkccacDoorC69
namespace Go.Proofs.YtnfpdonlknkccacDoor
open Go.RowKit
set_option linter.unusedVariables false
attribute [local irreducible] octS cN octF

theorem outer_nil (w : World) (B : Nat) (hB : B ≤ w.heap.size) (gs cs : Nat → Nat) (f : Nat → List Int) : Outer (w.alloc (.cells #[] 28)) B (.slice (some ⟨w.heap.size, 0, none⟩) 0 0) 0 gs cs f :=
  ⟨⟨rfl, .inr ⟨w.heap.size, 0, #[], rfl, hB, heap_alloc_new w _, by simp, by unfold maxLen; omega, by simp, by simp⟩⟩, fun j hj => absurd hj (by omega)⟩
theorem Rows2.congr {w : World} {B g n : Nat} {gs cs : Nat → Nat} {f f' : Nat → List Int} (h : Rows2 w B g n gs cs f) (e : ∀ i, i < n → f i = f' i) : Rows2 w B g n gs cs f' := by
  refine ⟨h.1, fun i hi => ?_⟩
  rw [← e i hi]
  exact h.2 i hi
theorem triL_at (W i : Nat) (h : i < 9) : triR W i (i + 1) = (triL W).getD i [] := by
  rw [List.getD_eq_getElem?_getD, List.getElem?_eq_getElem (by simp [triL]; exact h)]
  simp [triL]
theorem triL_len (W : Nat) : (triL W).length = 9 := by simp [triL]
set_option maxRecDepth 100000 in
set_option maxHeartbeats 2000000 in
theorem sOctadTriangle_calls (a : Int) (w : World) :
    Calls Tryd.prog 10 #[.int .i64 a] w fun e w' => ∃ A c, e = .returned (.tuple #[.slice A (triA a).1.length c, .bool (triA a).2]) ∧ Own2 w' w.heap.size A (triA a).1 ∧ Below w.heap.size w w' := by
  rcases hb : oIn a with _ | _
  · rw [show triA a = ([], false) by simp [triA, hb]]
    have H := Lib.hid hb
    clear hb
    go_enter Tryd.func10, Tryd.ntmps10
    go_wp2_with (go_at_call 14; refine (sOctadIn_calls a _).mono ?_; rintro e w1 ⟨he, b1⟩; rw [H.out] at he; subst he)
    have HB := ((Below.refl w.heap.size w).alloc (Nat.le_refl _) (.cells #[] 28)).trans (b1.mono (by simp))
    go_ret2
    exact ⟨_, _, rfl, .inl rfl, HB⟩
  rw [show triA a = (triL a.toNat, true) by simp [triA, hb]]
  obtain ⟨wa, _, w8⟩ := oIn_w hb
  have H := Lib.hid hb
  clear hb
  obtain ⟨W, rfl⟩ := Int.eq_ofNat_of_zero_le wa.1
  rw [Int.toNat_natCast]
  have hW : W < 16777216 := by have := wa.2; omega
  rw [wt_pop] at w8
  have HP := Lib.hid (fun i hi => fst_step W hW (by omega) i hi)
  have HL8 : (plI W).length = 8 := by unfold plI; rw [List.length_map]; unfold pl; rw [plN_len]; show pop W = 8; omega
  have HPL := Lib.hid HL8
  have HFI := Lib.hid (fun i => show IsW (fstI W i) from ⟨by unfold fstI; omega, by unfold fstI; have := firstW_lt W i hW; omega⟩)
  have HO0 := Lib.hid (outer_nil w w.heap.size (Nat.le_refl _) (fun _ => 0) (fun _ => 0) (fun i => triR W i (i + 1)))
  clear w8 HL8 hW wa
  go_enter Tryd.func10, Tryd.ntmps10
  go_wp2_with fail
  refine (sOctadIn_calls _ _).mono ?_
  rintro e w1 ⟨he, b1⟩
  rw [H.out] at he
  subst he
  have HO1 := Lib.hid (HO0.out.below b1)
  have HB1 := Lib.hid (((Below.refl w.heap.size w).alloc (Nat.le_refl _) (.cells #[] 28)).trans (b1.mono (by simp)))
  have hs1 : w.heap.size < w1.heap.size := by have := b1.size; simp at this; omega
  clear b1 HO0
  go_wp2_with fail
  refine (l1Places_calls W _).mono ?_
  rintro e w2 ⟨vp, rfl, op, b2⟩
  obtain ⟨Ap, cp, rfl⟩ := op.slice
  have HO2 := Lib.hid (HO1.out.below b2)
  have HB2 := Lib.hid (HB1.out.trans (b2.mono HB1.out.size))
  have hs2 : w1.heap.size ≤ w2.heap.size := b2.size
  have HOP := Lib.hid op
  clear b2 HO1 op
  go_wp2_with fail
  refine (l4All_calls _).mono ?_
  rintro e w3 ⟨A, c, rfl, q1, q2, r1, a1, b3⟩
  have HO3 := Lib.hid (HO2.out.below b3)
  have HB3 := Lib.hid (HB2.out.trans (b3.mono HB2.out.size))
  have hs3 : w2.heap.size ≤ w3.heap.size := b3.size
  have HRP := Lib.hid ((HOP.out.below b3).rds)
  have HR := Lib.hid r1
  have HA := Lib.hid (show ∀ ad, A = some ad → w.heap.size < ad.block ∧ ad.block < w3.heap.size from fun ad h => by
    have h1 := a1 ad h
    obtain ⟨b, o, e, hb, _⟩ := r1.at_ (j := 0) (by rw [octS_759]; decide)
    rw [e] at h; cases h; exact ⟨by omega, hb⟩)
  have HAp := Lib.hid (show ∀ ad, Ap = some ad → w.heap.size < ad.block ∧ ad.block < w3.heap.size from fun ad h => by
    obtain ⟨b, e, hb, hb2⟩ := own_at HOP.out (by rw [HPL.out]; decide)
    rw [e] at h; cases h; exact ⟨by show w.heap.size < b; omega, by show b < w3.heap.size; omega⟩)
  clear b3 r1 a1 HOP HO2 HB2
  have hl8 : ((plI W).length : Int) = 8 := by rw [HPL.out]; rfl
  generalize hnp : (plI W).length = np at *
  have HNP := Lib.hid hnp
  clear hnp
  go_wp2_with fail
  go_loopw [4, 7, 8] (fun v fr i wr => ∃ (p : Nat) (gs cs : Nat → Nat), p ≤ 9 ∧ i = .int .i64 p ∧ fr = .int .i64 (fstI W (min p 8)) ∧ Hid (Outer wr w.heap.size v p gs cs (fun i => triR W i (i + 1))) ∧ Hid (∀ j, v.ownBlock = some j → j = w.heap.size ∨ w3.heap.size ≤ j) ∧ Hid (Rds wr w3.heap.size .i64 Ap (plI W)) ∧ Hid (Rds wr w3.heap.size .i64 A octS) ∧ Hid (Below w.heap.size w wr) ∧ w3.heap.size ≤ wr.heap.size) (fun _ _ i _ => 9 - (intOf i).toNat)
  case atStart => exact ⟨0, fun _ => 0, fun _ => 0, by omega, rfl, by rw [show fstI W (min 0 8) = 0 by unfold fstI; rw [show min 0 8 = 0 from rfl, firstW_zero]; rfl], HO3, Lib.hid (fun j h => by simp [Value.ownBlock] at h; omega), Lib.hid (HRP.out.more (Nat.le_refl _)), HR, HB3, Nat.le_refl _⟩
  case round =>
    obtain ⟨p, gs, cs, hp, rfl, rfl, ho, hj, hrp, hr, hbl, hz⟩ := hrel
    obtain ⟨V4, hV4⟩ : ∃ V, V = wr := ⟨_, rfl⟩
    subst hV4
    by_cases hlt : p < 9
    · have hp1 : (p : Int) ≤ 8 := by omega
      have hp2 : (0 : Int) ≤ (p : Int) := by omega
      rw [show min p 8 = p by omega]
      have HOE := Lib.hid (own_empty V4 V4.heap.size (Nat.le_refl _))
      have HBE := Lib.hid ((Below.refl V4.heap.size V4).alloc (Nat.le_refl _) (.cells #[] 3))
      go_wp2_with fail
      go_loopw [9, 10, 11] (fun rv hv k wq => ∃ q : Nat, q ≤ p + 1 ∧ k = .int .i64 q ∧ hv = .int .i64 (fstI W (min q p)) ∧ Hid (Own wq V4.heap.size rv (triR W p q)) ∧ Hid (Below V4.heap.size V4 wq) ∧ V4.heap.size ≤ wq.heap.size) (fun _ _ k _ => p + 1 - (intOf k).toNat)
      case atStart => exact ⟨0, by omega, rfl, by rw [show fstI W (min 0 p) = 0 by unfold fstI; rw [Nat.zero_min, firstW_zero]; rfl], HOE, HBE, by simp⟩
      case round =>
        obtain ⟨q, hq, rfl, rfl, hown, hbq, hzq⟩ := hrel
        obtain ⟨V5, hV5⟩ : ∃ V, V = wr := ⟨_, rfl⟩
        subst hV5
        by_cases hlt2 : q ≤ p
        · have hq1 : (q : Int) ≤ (p : Int) := by omega
          have hq2 : (0 : Int) ≤ (q : Int) := by omega
          rw [show min q p = q by omega]
          have hrq := Lib.hid ((hr.out.more hz).below hbq.out)
          go_wp2_with fail
          go_loopw [12, 13] (fun n j wx => ∃ k : Nat, k ≤ 759 ∧ j = .int .i64 k ∧ n = .int .i64 ((triN (octS.take k) (fstI W p) (fstI W q) : Nat) : Int) ∧ wx = V5) (fun _ j _ => 759 - (intOf j).toNat)
          case atStart => exact ⟨0, by omega, rfl, by rw [List.take_zero]; rfl, rfl⟩
          case round =>
            obtain ⟨k, hk, rfl, rfl, rfl⟩ := hrel
            have hle : triN (octS.take k) (fstI W p) (fstI W q) ≤ 759 := by
              have h1 := triN_le (octS.take k) (fstI W p) (fstI W q)
              have h2 := List.length_take_le k octS
              omega
            by_cases hlt3 : k < 759
            · obtain ⟨b, o, rfl, hb1, hc⟩ := hrq.out.at_ (j := k) (by rw [octS_759]; exact hlt3)
              have hx := (oct_at k hlt3).rng
              have HS := Lib.hid (show triN (octS.take (k + 1)) (fstI W p) (fstI W q) = if andI (octS.getD k 0) (fstI W p) == fstI W q then triN (octS.take k) (fstI W p) (fstI W q) + 1 else triN (octS.take k) (fstI W p) (fstI W q) by rw [oct_take k hlt3, triN_snoc])
              generalize octS.getD k 0 = x at *
              have hxw := and_i64w x (fstI W p) hx (HFI.out p)
              have hk1 : (0 : Int) ≤ (k : Int) := by omega
              have hk2 : (k : Int) < 759 := by omega
              generalize triN (octS.take k) (fstI W p) (fstI W q) = n at *
              have hn0 : (0 : Int) ≤ (n : Int) := by omega
              have hn1 : (n : Int) ≤ 759 := by omega
              generalize fstI W p = F at *
              generalize fstI W q = G at *
              cases hP : andI x F == G
              · have HS2 := Lib.hid (show triN (octS.take (k + 1)) F G = n by rw [HS.out, hP]; rfl)
                go_wp2_with fail
                go_roundw
                case rel => exact ⟨k + 1, by omega, by go_num, by rw [HS2.out], trivial⟩
                case measure => simp [intOf]; omega
              · have HS2 := Lib.hid (show triN (octS.take (k + 1)) F G = n + 1 by rw [HS.out, hP]; rfl)
                go_wp2_with fail
                go_roundw
                case rel => exact ⟨k + 1, by omega, by go_num, by rw [HS2.out]; go_num, trivial⟩
                case measure => simp [intOf]; omega
            · obtain rfl : k = 759 := by omega
              rw [oct_take_all] at hle
              rw [oct_take_all]
              have HSR := Lib.hid (triR_succ W p q)
              have hlr : (triR W p q).length ≤ 759 := by rw [triR_len]; omega
              generalize triN octS (fstI W p) (fstI W q) = n at *
              generalize triR W p q = R at *
              by_cases hqp : q < p
              · have hqp1 : (q : Int) < (p : Int) := by omega
                have hq8 : (q : Int) < 8 := by omega
                obtain ⟨e1, e2, e3⟩ := HP.out q (by omega)
                obtain ⟨bp, ob, rfl, hbp, hcp⟩ := hrp.out.at_ (j := q) (by rw [HNP.out, HPL.out]; omega)
                rw [e1] at hcp
                have hbp4 : bp < V4.heap.size := by omega
                have hcp5 := (hbq.out.cell (p := ⟨bp, ob + q, none⟩) hbp4).trans hcp
                have HE := Lib.hid e3
                clear e1 e3 hcp
                generalize (pl W).getD q 0 = P at *
                generalize fstI W q = G at *
                go_wp2_with (at_builtin; refine wpList_pushAt rfl _ _ rfl _ V4.heap.size _ _ _ _ rfl rfl (by exact hown.out) (by omega) (by omega) ?_; intro v2 w2 ho2 hb2 hg2 hat; have hcp2 := (hb2.cell (p := ⟨bp, ob + q, none⟩) hbp4).trans hcp5)
                go_roundw
                case rel => exact ⟨q + 1, by omega, by go_num, by rw [show min (q + 1) p = q + 1 by omega, ← HE.out], Lib.hid (by rw [HSR.out]; exact ho2), Lib.hid (hbq.out.trans hb2), Nat.le_trans hzq hb2.size⟩
                case measure => simp [intOf]; omega
              · have hqp1 : ¬ (q : Int) < (p : Int) := by omega
                go_wp2_with (at_builtin; refine wpList_pushAt rfl _ _ rfl _ V4.heap.size _ _ _ _ rfl rfl (by exact hown.out) (by omega) (by omega) ?_; intro v2 w2 ho2 hb2 hg2 hat)
                go_roundw
                case rel => exact ⟨q + 1, by omega, by go_num, by rw [show min (q + 1) p = q by omega], Lib.hid (by rw [HSR.out]; exact ho2), Lib.hid (hbq.out.trans hb2), Nat.le_trans hzq hb2.size⟩
                case measure => simp [intOf]; omega
        · obtain rfl : q = p + 1 := by omega
          obtain ⟨A9, c9, rfl⟩ := hown.out.slice
          obtain ⟨g9, rfl, _, _⟩ := own_at hown.out (by rw [triR_len]; omega)
          have HOV := Lib.hid (ho.out.below hbq.out)
          have HBV := Lib.hid (hbl.out.trans (hbq.out.mono hbl.out.size))
          have HOW := Lib.hid (show V5.ownsRow w.heap.size 28 1 u4 ((List.range p).map fun j => Value.slice (some ⟨gs j, 0, none⟩) (triR W j (j + 1)).length (cs j)).length ((List.range p).map fun j => Value.slice (some ⟨gs j, 0, none⟩) (triR W j (j + 1)).length (cs j)) by rw [List.length_map, List.length_range]; exact HOV.out.own)
          have hlo : ((List.range p).map fun j => Value.slice (some ⟨gs j, 0, none⟩) (triR W j (j + 1)).length (cs j)).length ≤ 1048576 := by rw [List.length_map, List.length_range]; omega
          have hwV : w.heap.size ≤ V5.heap.size := HBV.out.size
          have HPUSH := Lib.hid (fun v2 w2 (ho2 : w2.ownsRow w.heap.size 28 1 v2 (((List.range p).map fun j => Value.slice (some ⟨gs j, 0, none⟩) (triR W j (j + 1)).length (cs j)).length + 1) (((List.range p).map fun j => Value.slice (some ⟨gs j, 0, none⟩) (triR W j (j + 1)).length (cs j)) ++ [.slice (some ⟨g9, 0, none⟩) (triR W p (p + 1)).length c9])) (hg2 : V5.grownBy w2 u4.ownBlock) (hat : ∀ k, v2.ownBlock = some k → u4.ownBlock = some k ∨ V5.heap.size ≤ k) =>
            show Outer w2 w.heap.size v2 (p + 1) (fun j => if j = p then g9 else gs j) (fun j => if j = p then c9 else cs j) (fun i => triR W i (i + 1)) ∧ Rds w2 w3.heap.size .i64 Ap (plI W) ∧ Rds w2 w3.heap.size .i64 A octS ∧ (∀ j, v2.ownBlock = some j → j = w.heap.size ∨ w3.heap.size ≤ j) from by
              have hne : ∀ B : Option Addr, (∀ ad, B = some ad → w.heap.size < ad.block ∧ ad.block < w3.heap.size) → ∀ ad, B = some ad → u4.ownBlock ≠ some ad.block := fun B hB ad h e => by
                have h1 := hB ad h
                rcases hj.out _ e with h3 | h3 <;> omega
              have hz5 : w3.heap.size ≤ V5.heap.size := Nat.le_trans hz hzq
              have hr5 : ∀ (B : Option Addr) (L : List Int), Rds V4 w3.heap.size .i64 B L → Rds V5 w3.heap.size .i64 B L := fun B L h => h.keep fun a ha => hbq.out.cell (by omega)
              rw [List.length_map, List.length_range] at ho2
              refine ⟨HOV.out.push (S := V4.heap.size) (fun j hj' => (ho.out.rows j hj').2.2.1) ho.out.size hbl.out.size rfl hown.out ho2 hg2 hat, (hr5 _ _ hrp.out).apart hg2 hz5 (hne _ HAp.out), (hr5 _ _ hr.out).apart hg2 hz5 (hne _ HA.out), fun j h => ?_⟩
              rcases hat j h with h1 | h1
              · exact hj.out j h1
              · exact .inr (by omega))
          have hzz : w3.heap.size ≤ V5.heap.size := Nat.le_trans hz hzq
          clear hown ho hbl hj hr
          generalize (triR W p (p + 1)).length = n9 at *
          generalize (List.range p).map (fun j => Value.slice (some ⟨gs j, 0, none⟩) (triR W j (j + 1)).length (cs j)) = vs at *
          by_cases hp8 : p < 8
          · have hp81 : (p : Int) < 8 := by omega
            obtain ⟨e1, e2, e3⟩ := HP.out p hp8
            have HPI := Lib.hid e1
            have HE := Lib.hid e3
            have hp82 : p < (plI W).length := by rw [HNP.out, HPL.out]; exact hp8
            obtain ⟨bp, ob, rfl, hbp, _⟩ := hrp.out.at_ (j := p) hp82
            clear e1 e3
            generalize (pl W).getD p 0 = P at *
            generalize fstI W p = F at *
            have HN := Lib.hid (fun (w2 : World) (h : Rds w2 w3.heap.size .i64 (some ⟨bp, ob, none⟩) (plI W)) => show w2.cell? ⟨bp, ob + p, none⟩ = some (.int .i64 ((P : Nat) : Int)) by
              obtain ⟨b', o', e', _, hc'⟩ := h.at_ hp82
              cases e'
              rw [HPI.out] at hc'
              exact hc')
            clear hp82
            go_wp2_with (at_builtin; refine wpList_pushRow rfl _ _ rfl V5 w.heap.size u4 vs (some ⟨g9, 0, none⟩) n9 c9 1 rfl rfl HOW.out hlo hwV ?_; intro v2 w2 ho2 hb2 hg2 hat; have hcp2 := HN.out w2 (HPUSH.out v2 w2 ho2 hg2 hat).2.1)
            obtain ⟨h1, h2, h3, h4⟩ := HPUSH.out v2 w2 ho2 hg2 hat
            have H1 := Lib.hid h1
            have H2 := Lib.hid h2
            have H3 := Lib.hid h3
            have H4 := Lib.hid h4
            clear h1 h2 h3 h4
            go_roundw
            case rel => exact ⟨p + 1, _, _, by omega, by go_num, by rw [show min (p + 1) 8 = p + 1 by omega, ← HE.out], H1, H4, H2, H3, Lib.hid (HBV.out.trans hb2), Nat.le_trans hzz hg2.size⟩
            case measure => simp [intOf]; omega
          · have hp81 : ¬ (p : Int) < 8 := by omega
            go_wp2_with (at_builtin; refine wpList_pushRow rfl _ _ rfl V5 w.heap.size u4 vs (some ⟨g9, 0, none⟩) n9 c9 1 rfl rfl HOW.out hlo hwV ?_; intro v2 w2 ho2 hb2 hg2 hat)
            obtain ⟨h1, h2, h3, h4⟩ := HPUSH.out v2 w2 ho2 hg2 hat
            have H1 := Lib.hid h1
            have H2 := Lib.hid h2
            have H3 := Lib.hid h3
            have H4 := Lib.hid h4
            clear h1 h2 h3 h4
            go_roundw
            case rel => exact ⟨p + 1, _, _, by omega, by go_num, by rw [show min (p + 1) 8 = p by omega], H1, H4, H2, H3, Lib.hid (HBV.out.trans hb2), Nat.le_trans hzz hg2.size⟩
            case measure => simp [intOf]; omega
    · obtain rfl : p = 9 := by omega
      rcases ho.out.own.2 with ⟨_, h9⟩ | ⟨g, cap, cur, rfl, hBg, _⟩
      · omega
      · have HRW := Lib.hid (ho.out.rows2.congr fun i hi => triL_at W i hi)
        clear ho
        go_wp2_with fail
        go_ret2
        exact ⟨some ⟨g, 0, none⟩, cap, by rw [triL_len]; rfl, .inr ⟨g, gs, cs, rfl, hBg, by rw [triL_len]; exact HRW.out⟩, hbl.out⟩
end Go.Proofs.YtnfpdonlknkccacDoor
