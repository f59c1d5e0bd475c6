/- Sorting words by the library's own text: pdqsort at up to 21 different words; slices.Sort. -/
import Derived.Test.YtmeejnkpaiinaacGreatDoorC85
namespace Go.Proofs.YtmeejnkpaiinaacGreatDoor
open Go.RowKit Go.Sort
set_option linter.unusedVariables false

set_option maxRecDepth 100000 in
set_option maxHeartbeats 40000000 in
theorem wPdq (g c n : Nat) (t : TypeId) (tl : Array Value) (hn : n ≤ 21) : ∀ (L a b limit : Nat) (d : Array Int) (w : World), b = a + L → b ≤ n → d.size = n → RowB w g t tl d → Apart 0 n d → Sort.Below ltInt a b d → 10 + L ≤ 2 * limit + 21 → limit ≤ 64 →
    Calls Tryz.prog 192 #[.slice (some ⟨g, 0, none⟩) n c, .int .i64 a, .int .i64 b, .int .i64 limit] w fun e w' =>
      e = .returned (.tuple #[]) ∧ ∃ d', PermIn a b d d' ∧ SortedIn ltInt a b d' ∧ RowB w' g t tl d' ∧ Trn g w w' := by
  intro L
  induction L using Nat.strongRecOn
  rename_i L ih
  intro a b limit d w hL hb hd hR hA hB hpot hlim
  have IH := Lib.hid ih
  have HS := Lib.hid (show RowB w g t tl d ∧ Trn g w w ∧ d.size = n ∧ Apart 0 n d ∧ Sort.Below ltInt a b d ∧ ∀ R, PermIn a b d R → SortedIn ltInt a b R → PermIn a b d R ∧ SortedIn ltInt a b R from ⟨hR, Trn.refl _ _, hd, hA, hB, fun R h1 h2 => ⟨h1, h2⟩⟩)
  have HL0 := Lib.hid hL
  clear ih hR hA hB hd hL
  go_enter Tryz.func192, Tryz.ntmps192
  go_wp2_with fail
  go_loopw [1, 2, 3, 8, 9] (fun va vb vl v8 v9 wq => ∃ (a1 b1 l0 : Nat) (wb wp : Bool) (dk : Array Int), va = .int .i64 (a1 : Nat) ∧ vb = .int .i64 (b1 : Nat) ∧ vl = .int .i64 (l0 : Nat) ∧ v8 = .bool wb ∧ v9 = .bool wp ∧ a ≤ a1 ∧ a1 ≤ b1 ∧ b1 ≤ b ∧ b1 - a1 ≤ L ∧ ((wb = true → 10 + (b1 - a1) ≤ 2 * l0 + 21) ∧ (wb = false → 10 + (b1 - a1) + 2 ≤ 2 * l0 + 21)) ∧ l0 ≤ 64 ∧ Hid (RowB wq g t tl dk ∧ Trn g w wq ∧ dk.size = n ∧ Apart 0 n dk ∧ Sort.Below ltInt a1 b1 dk ∧ ∀ R, PermIn a1 b1 dk R → SortedIn ltInt a1 b1 R → PermIn a b d R ∧ SortedIn ltInt a b R)) (fun va vb _ _ _ _ => (intW vb).toNat + 1 - (intW va).toNat)
  case atStart => exact ⟨a, b, limit, true, true, d, rfl, rfl, rfl, rfl, rfl, Nat.le_refl _, by have := HL0.out; omega, Nat.le_refl _, by have := HL0.out; omega, ⟨fun _ => by have := HL0.out; omega, fun h => by cases h⟩, hlim, HS⟩
  case round =>
    obtain ⟨a1, b1, l0, wb, wp, dk, rfl, rfl, rfl, rfl, rfl, haa, hab, hbb, hlen, hpt, hl0, HK⟩ := hrel
    obtain ⟨K, hK⟩ : ∃ K, b1 = a1 + K := ⟨b1 - a1, by omega⟩
    have eK : (b1 : Int) - (a1 : Int) = (K : Int) := by omega
    have hb1n : b1 ≤ n := by omega
    have lb1 : (b1 : Int) ≤ 21 := by omega
    have HKL := Lib.hid (show b1 = a1 + K ∧ K ≤ L from ⟨hK, by omega⟩)
    by_cases h12 : K ≤ 12
    · have h12I : (K : Int) ≤ 12 := by omega
      have hins := insertionSort_holds (lt := ltInt) swo_ltInt dk a1 b1 hab (by rw [HK.out.2.2.1]; exact hb1n)
      have HC := Lib.hid (HK.out.2.2.2.2.2 _ hins.1 hins.2)
      clear hins hK
      go_wp2_with fail
      refine (wInsert g c a1 b1 t tl dk n _ HK.out.2.2.1 HK.out.1 hab hb1n (by omega)).mono ?_
      rintro e w2 ⟨rfl, r2, t2⟩
      go_wp2_with fail
      ((try simp only [Exit.inBlock, Exit.then]); refine bodyPost_ret (results_none rfl _ _ _) rfl ?_)
      exact ⟨rfl, _, HC.out.1, HC.out.2, r2, HK.out.2.1.trans t2⟩
    · have h12I : ¬ (K : Int) ≤ 12 := by omega
      have hK21 : (K : Int) ≤ 21 := by omega
      obtain ⟨e8, he8⟩ : ∃ e8, K / 8 = e8 := ⟨_, rfl⟩
      have HE8 := Lib.hid (show K / 8 = e8 ∧ K ≤ 21 from ⟨he8, by omega⟩)
      have eK8 : (K : Int) / 8 = (e8 : Int) := by omega
      have le8 : (e8 : Int) ≤ 2 := by omega
      have le80 : (0 : Int) ≤ (e8 : Int) := by omega
      have hK13 : a1 + 13 ≤ b1 := by omega
      have hK2 : b1 ≤ a1 + 21 := by omega
      have hl1 : ¬ (l0 : Int) = 0 := by cases wb <;> simp at hpt <;> omega
      have hl1b : ((l0 : Int) == 0) = false := by simpa using hl1
      clear hK he8
      cases wb
      · obtain ⟨l1, hl1e⟩ : ∃ l1, l0 = l1 + 1 := ⟨l0 - 1, by have := hpt.2 rfl; omega⟩
        have el1 : (l0 : Int) - 1 = (l1 : Int) := by omega
        have HPOT := Lib.hid (show 10 + (b1 - a1) ≤ 2 * l1 + 21 by have := hpt.2 rfl; omega)
        have hl64 : l1 ≤ 64 := by omega
        have HHPT := Lib.hid hpt
        clear hpt hl1e
        go_wp2_with fail
        refine (wBreak g c a1 b1 n t tl dk _ HK.out.2.2.1 HK.out.1 hK13 hK2 hb1n (by omega)).mono ?_
        rintro e wz ⟨d1, rfl, pz, rz, tz⟩
        have HD1 := Lib.hid (show d1.size = n by rw [pz.1]; exact HK.out.2.2.1)
        have HA1 := Lib.hid (apart_perm HK.out.2.2.2.1 (by rw [HK.out.2.2.1]; exact Nat.le_refl n) (permIn_mono _ _ a1 b1 0 n (Nat.zero_le _) hb1n (by rw [HK.out.2.2.1]; exact Nat.le_refl n) pz))
        have HB1 := Lib.hid (Below.perm HK.out.2.2.2.2.1 (by rw [HK.out.2.2.1]; exact hb1n) pz)
        have HC1 := Lib.hid (fun R h1 h2 => HK.out.2.2.2.2.2 R (permIn_trans _ _ _ _ _ pz h1) h2)
        have HR0 := Lib.hid rz
        have HT0 := Lib.hid (HK.out.2.1.trans tz)
        clear pz rz tz HK
        go_wp2_with fail
        refine (wPivot g c a1 b1 n t tl d1 _ HD1.out HR0.out hK13 hb1n (by omega) (HA1.out.mono (Nat.zero_le _) hb1n)).mono ?_
        rintro e w2 hpv
        obtain ⟨p, h, rfl, hp, hh, hxy, b2⟩ := hpv
        obtain ⟨hp1, hp2⟩ := hp
        have HXY := Lib.hid hxy
        have HR1 := Lib.hid (HR0.out.below b2)
        have HT1 := Lib.hid (HT0.out.trans (show Trn g _ w2 from ⟨b2.os, b2.tape, b2.output, b2.size, fun k hk _ => b2.block k hk⟩))
        clear hxy b2 HR0 HT0
        have hh2 : ¬ (h : Int) = 2 := by omega
        have hh2b : ((h : Int) == 2) = false := by simpa using hh2
        go_wp2_with fail
        by_cases ha0 : a1 = 0
        · have ha0I : ¬ (0 : Int) < (a1 : Int) := by omega
          have ha0N : ¬ 0 < a1 := by omega
          have hcp := HR1.out.cell (i := p) (by rw [HD1.out]; omega)
          have hpI : (0 : Int) ≤ (p : Int) := by omega
          have hpN : (p : Int) < (n : Int) := by omega
          clear ha0
          go_wp2_with fail
          go_quiet (first | (go_at_call 217; refine Calls.quiet_of_same (wLess _ _ _)))
          go_wp2_with fail
          refine (wPart g c a1 b1 p n t tl d1 _ HD1.out (HR1.out.drewN _) hp1 hp2 (by omega) hb1n (by omega)).mono ?_
          rintro e w3 ⟨f, rfl, r3, t3⟩
          have hpm := HXY.out
          obtain ⟨x, y, hx, hy, g1, g2⟩ := hpm
          have hmid := part_mid d1 a1 b1 p x y hp1 hp2 (by rw [HD1.out]; exact hb1n) hx hy g1 g2
          obtain ⟨mid, hmd⟩ : ∃ mid, mid = (partition ltInt d1 a1 b1 p).1 := ⟨_, rfl⟩
          obtain ⟨d4, hd4⟩ : ∃ d4, d4 = (partition ltInt d1 a1 b1 p).2.2 := ⟨_, rfl⟩
          have hrp := round_part swo_ltInt (partition_holds ltInt) hp1 hp2 (by rw [HD1.out]; exact hb1n) HB1.out (show partition ltInt d1 a1 b1 p = (mid, (partition ltInt d1 a1 b1 p).2.1, d4) by rw [hmd, hd4])
          have hperm := (partition_holds ltInt swo_ltInt d1 a1 b1 p hp1 hp2 (by rw [HD1.out]; exact hb1n)).2.2.1
          rw [← hd4] at r3 hperm
          rw [← hmd] at hmid
          rw [← hmd]
          obtain ⟨_, _, hs4, hBl, hBr, hCl, hCr⟩ := hrp
          have HR4 := Lib.hid r3
          have HT4 := Lib.hid ((HT1.out.drewN _).trans t3)
          have HD4 := Lib.hid (show d4.size = n by rw [hs4]; exact HD1.out)
          have HA4 := Lib.hid (apart_perm HA1.out (by rw [HD1.out]; exact Nat.le_refl n) (permIn_mono _ _ a1 b1 0 n (Nat.zero_le _) hb1n (by rw [HD1.out]; exact Nat.le_refl n) hperm))
          have HBL := Lib.hid hBl
          have HBR := Lib.hid hBr
          have HCL := Lib.hid hCl
          have HCR := Lib.hid hCr
          clear r3 t3 hmd hd4 hs4 hBl hBr hCl hCr hperm g1 g2 hx hy
          obtain ⟨s, hs⟩ : ∃ s, mid = a1 + s := ⟨mid - a1, by omega⟩
          obtain ⟨u, hu⟩ : ∃ u, b1 = mid + u := ⟨b1 - mid, by omega⟩
          have es : (mid : Int) - (a1 : Int) = (s : Int) := by omega
          have eu : (b1 : Int) - (mid : Int) = (u : Int) := by omega
          have lmid : (mid : Int) ≤ 21 := by omega
          have HSU := Lib.hid (show mid = a1 + s ∧ b1 = mid + u ∧ a1 < mid ∧ mid + 1 < b1 from ⟨hs, hu, hmid.1, hmid.2⟩)
          clear hs hu hmid
          by_cases hlr : s < u
          · have hlrI : (s : Int) < (u : Int) := by omega
            go_wp2_with fail
            refine (IH.out s (by have := HSU.out; have := HKL.out; omega) a1 mid l1 d4 _ (by have := HSU.out; omega) (by have := HSU.out; omega) HD4.out HR4.out HA4.out HBL.out (by have := HSU.out; have := HPOT.out; omega) (by omega)).mono ?_
            rintro e w5 ⟨rfl, d5, p5, s5, r5, t5⟩
            have hc5 := HCL.out d5 p5 s5
            have hA5 := apart_perm HA4.out (by rw [HD4.out]; exact Nat.le_refl n) (permIn_mono _ _ a1 mid 0 n (Nat.zero_le _) (by have := HSU.out; omega) (by rw [HD4.out]; exact Nat.le_refl n) p5)
            go_wp2_with fail
            go_roundw
            case rel => exact ⟨mid + 1, b1, l1, _, f, d5, by go_num, rfl, rfl, rfl, rfl, by have := HSU.out; omega, by have := HSU.out; omega, hbb, by have := HSU.out; omega, ⟨fun _ => by have := HSU.out; have := HPOT.out; omega, fun hf => by have := HSU.out; have := HPOT.out; have := HKL.out; have := HE8.out; have hf2 := of_decide_eq_false hf; omega⟩, by omega, Lib.hid ⟨r5, HT4.out.trans t5, by rw [p5.1]; exact HD4.out, hA5, hc5.1, fun R h1 h2 => HC1.out R (hc5.2 R h1 h2).1 (hc5.2 R h1 h2).2⟩⟩
            case measure => first | (simp [intW]; done) | (simp [intW]; have := HSU.out; omega)
          · have hlrI : ¬ (s : Int) < (u : Int) := by omega
            go_wp2_with fail
            refine (IH.out (u - 1) (by have := HSU.out; have := HKL.out; omega) (mid + 1) b1 l1 d4 _ (by have := HSU.out; omega) hb1n HD4.out HR4.out HA4.out HBR.out (by have := HSU.out; have := HPOT.out; omega) (by omega)).mono ?_
            rintro e w5 ⟨rfl, d5, p5, s5, r5, t5⟩
            have hc5 := HCR.out d5 p5 s5
            have hA5 := apart_perm HA4.out (by rw [HD4.out]; exact Nat.le_refl n) (permIn_mono _ _ (mid + 1) b1 0 n (Nat.zero_le _) hb1n (by rw [HD4.out]; exact Nat.le_refl n) p5)
            go_wp2_with fail
            go_roundw
            case rel => exact ⟨a1, mid, l1, _, f, d5, rfl, rfl, rfl, rfl, rfl, haa, by have := HSU.out; omega, by have := HSU.out; omega, by have := HSU.out; omega, ⟨fun _ => by have := HSU.out; have := HPOT.out; omega, fun hf => by have := HSU.out; have := HPOT.out; have := HKL.out; have := HE8.out; have hf2 := of_decide_eq_false hf; omega⟩, by omega, Lib.hid ⟨r5, HT4.out.trans t5, by rw [p5.1]; exact HD4.out, hA5, hc5.1, fun R h1 h2 => HC1.out R (hc5.2 R h1 h2).1 (hc5.2 R h1 h2).2⟩⟩
            case measure => first | (simp [intW]; done) | (simp [intW]; have := HSU.out; omega)
        · obtain ⟨q, hq⟩ : ∃ q, a1 = q + 1 := ⟨a1 - 1, by omega⟩
          have ha0I : (0 : Int) < (a1 : Int) := by omega
          have ha0N : 0 < a1 := by omega
          have hqI : (a1 : Int) - 1 = (q : Int) := by omega
          have hq0 : (0 : Int) ≤ (q : Int) := by omega
          have hqn : (q : Int) < (n : Int) := by omega
          have hpI : (0 : Int) ≤ (p : Int) := by omega
          have hpN : (p : Int) < (n : Int) := by omega
          have hcq := HR1.out.cell (i := q) (by rw [HD1.out]; omega)
          have hcp := HR1.out.cell (i := p) (by rw [HD1.out]; omega)
          have hlt := below_lt HB1.out (fun i h1 h2 => HA1.out (a1 - 1) i (Nat.zero_le _) (by omega) (by omega)) (by omega) hp1 hp2
          rw [show a1 - 1 = q by omega] at hlt
          obtain ⟨xq, hxq⟩ : ∃ x, x = d1[q]! := ⟨_, rfl⟩
          obtain ⟨xp, hxp⟩ : ∃ x, x = d1[p]! := ⟨_, rfl⟩
          rw [← hxq] at hcq hlt
          rw [← hxp] at hcp hlt
          have HL := Lib.hid hlt
          clear hxq hxp hlt hq
          go_wp2_with fail
          go_quiet (first | (go_at_call 217; refine Calls.quiet_of_same (wLessV _ _ _ _ HL.out)))
          go_wp2_with fail
          refine (wPart g c a1 b1 p n t tl d1 _ HD1.out (HR1.out.drewN _) hp1 hp2 (by omega) hb1n (by omega)).mono ?_
          rintro e w3 ⟨f, rfl, r3, t3⟩
          have hpm := HXY.out
          obtain ⟨x, y, hx, hy, g1, g2⟩ := hpm
          have hmid := part_mid d1 a1 b1 p x y hp1 hp2 (by rw [HD1.out]; exact hb1n) hx hy g1 g2
          obtain ⟨mid, hmd⟩ : ∃ mid, mid = (partition ltInt d1 a1 b1 p).1 := ⟨_, rfl⟩
          obtain ⟨d4, hd4⟩ : ∃ d4, d4 = (partition ltInt d1 a1 b1 p).2.2 := ⟨_, rfl⟩
          have hrp := round_part swo_ltInt (partition_holds ltInt) hp1 hp2 (by rw [HD1.out]; exact hb1n) HB1.out (show partition ltInt d1 a1 b1 p = (mid, (partition ltInt d1 a1 b1 p).2.1, d4) by rw [hmd, hd4])
          have hperm := (partition_holds ltInt swo_ltInt d1 a1 b1 p hp1 hp2 (by rw [HD1.out]; exact hb1n)).2.2.1
          rw [← hd4] at r3 hperm
          rw [← hmd] at hmid
          rw [← hmd]
          obtain ⟨_, _, hs4, hBl, hBr, hCl, hCr⟩ := hrp
          have HR4 := Lib.hid r3
          have HT4 := Lib.hid ((HT1.out.drewN _).trans t3)
          have HD4 := Lib.hid (show d4.size = n by rw [hs4]; exact HD1.out)
          have HA4 := Lib.hid (apart_perm HA1.out (by rw [HD1.out]; exact Nat.le_refl n) (permIn_mono _ _ a1 b1 0 n (Nat.zero_le _) hb1n (by rw [HD1.out]; exact Nat.le_refl n) hperm))
          have HBL := Lib.hid hBl
          have HBR := Lib.hid hBr
          have HCL := Lib.hid hCl
          have HCR := Lib.hid hCr
          clear r3 t3 hmd hd4 hs4 hBl hBr hCl hCr hperm g1 g2 hx hy
          obtain ⟨s, hs⟩ : ∃ s, mid = a1 + s := ⟨mid - a1, by omega⟩
          obtain ⟨u, hu⟩ : ∃ u, b1 = mid + u := ⟨b1 - mid, by omega⟩
          have es : (mid : Int) - (a1 : Int) = (s : Int) := by omega
          have eu : (b1 : Int) - (mid : Int) = (u : Int) := by omega
          have lmid : (mid : Int) ≤ 21 := by omega
          have HSU := Lib.hid (show mid = a1 + s ∧ b1 = mid + u ∧ a1 < mid ∧ mid + 1 < b1 from ⟨hs, hu, hmid.1, hmid.2⟩)
          clear hs hu hmid
          by_cases hlr : s < u
          · have hlrI : (s : Int) < (u : Int) := by omega
            go_wp2_with fail
            refine (IH.out s (by have := HSU.out; have := HKL.out; omega) a1 mid l1 d4 _ (by have := HSU.out; omega) (by have := HSU.out; omega) HD4.out HR4.out HA4.out HBL.out (by have := HSU.out; have := HPOT.out; omega) (by omega)).mono ?_
            rintro e w5 ⟨rfl, d5, p5, s5, r5, t5⟩
            have hc5 := HCL.out d5 p5 s5
            have hA5 := apart_perm HA4.out (by rw [HD4.out]; exact Nat.le_refl n) (permIn_mono _ _ a1 mid 0 n (Nat.zero_le _) (by have := HSU.out; omega) (by rw [HD4.out]; exact Nat.le_refl n) p5)
            go_wp2_with fail
            go_roundw
            case rel => exact ⟨mid + 1, b1, l1, _, f, d5, by go_num, rfl, rfl, rfl, rfl, by have := HSU.out; omega, by have := HSU.out; omega, hbb, by have := HSU.out; omega, ⟨fun _ => by have := HSU.out; have := HPOT.out; omega, fun hf => by have := HSU.out; have := HPOT.out; have := HKL.out; have := HE8.out; have hf2 := of_decide_eq_false hf; omega⟩, by omega, Lib.hid ⟨r5, HT4.out.trans t5, by rw [p5.1]; exact HD4.out, hA5, hc5.1, fun R h1 h2 => HC1.out R (hc5.2 R h1 h2).1 (hc5.2 R h1 h2).2⟩⟩
            case measure => first | (simp [intW]; done) | (simp [intW]; have := HSU.out; omega)
          · have hlrI : ¬ (s : Int) < (u : Int) := by omega
            go_wp2_with fail
            refine (IH.out (u - 1) (by have := HSU.out; have := HKL.out; omega) (mid + 1) b1 l1 d4 _ (by have := HSU.out; omega) hb1n HD4.out HR4.out HA4.out HBR.out (by have := HSU.out; have := HPOT.out; omega) (by omega)).mono ?_
            rintro e w5 ⟨rfl, d5, p5, s5, r5, t5⟩
            have hc5 := HCR.out d5 p5 s5
            have hA5 := apart_perm HA4.out (by rw [HD4.out]; exact Nat.le_refl n) (permIn_mono _ _ (mid + 1) b1 0 n (Nat.zero_le _) hb1n (by rw [HD4.out]; exact Nat.le_refl n) p5)
            go_wp2_with fail
            go_roundw
            case rel => exact ⟨a1, mid, l1, _, f, d5, rfl, rfl, rfl, rfl, rfl, haa, by have := HSU.out; omega, by have := HSU.out; omega, by have := HSU.out; omega, ⟨fun _ => by have := HSU.out; have := HPOT.out; omega, fun hf => by have := HSU.out; have := HPOT.out; have := HKL.out; have := HE8.out; have hf2 := of_decide_eq_false hf; omega⟩, by omega, Lib.hid ⟨r5, HT4.out.trans t5, by rw [p5.1]; exact HD4.out, hA5, hc5.1, fun R h1 h2 => HC1.out R (hc5.2 R h1 h2).1 (hc5.2 R h1 h2).2⟩⟩
            case measure => first | (simp [intW]; done) | (simp [intW]; have := HSU.out; omega)
      · obtain ⟨l1, hl1e⟩ : ∃ l1, l0 = l1 := ⟨l0, rfl⟩
        subst hl1e
        have HPOT := Lib.hid (hpt.1 rfl)
        have hl64 : l0 ≤ 64 := hl0
        have HHPT := Lib.hid hpt
        obtain ⟨d1, hd1⟩ : ∃ d1, d1 = dk := ⟨_, rfl⟩
        subst hd1
        have HD1 := Lib.hid HK.out.2.2.1
        have HA1 := Lib.hid HK.out.2.2.2.1
        have HB1 := Lib.hid HK.out.2.2.2.2.1
        have HC1 := Lib.hid HK.out.2.2.2.2.2
        have HR0 := Lib.hid HK.out.1
        have HT0 := Lib.hid HK.out.2.1
        clear HK hpt
        go_wp2_with fail
        refine (wPivot g c a1 b1 n t tl d1 _ HD1.out HR0.out hK13 hb1n (by omega) (HA1.out.mono (Nat.zero_le _) hb1n)).mono ?_
        rintro e w2 hpv
        obtain ⟨p, h, rfl, hp, hh, hxy, b2⟩ := hpv
        obtain ⟨hp1, hp2⟩ := hp
        have HXY := Lib.hid hxy
        have HR1 := Lib.hid (HR0.out.below b2)
        have HT1 := Lib.hid (HT0.out.trans (show Trn g _ w2 from ⟨b2.os, b2.tape, b2.output, b2.size, fun k hk _ => b2.block k hk⟩))
        clear hxy b2 HR0 HT0
        have hh2 : ¬ (h : Int) = 2 := by omega
        have hh2b : ((h : Int) == 2) = false := by simpa using hh2
        cases wp
        · go_wp2_with fail
          by_cases ha0 : a1 = 0
          · have ha0I : ¬ (0 : Int) < (a1 : Int) := by omega
            have ha0N : ¬ 0 < a1 := by omega
            have hcp := HR1.out.cell (i := p) (by rw [HD1.out]; omega)
            have hpI : (0 : Int) ≤ (p : Int) := by omega
            have hpN : (p : Int) < (n : Int) := by omega
            clear ha0
            go_wp2_with fail
            go_quiet (first | (go_at_call 217; refine Calls.quiet_of_same (wLess _ _ _)))
            go_wp2_with fail
            refine (wPart g c a1 b1 p n t tl d1 _ HD1.out (HR1.out.drewN _) hp1 hp2 (by omega) hb1n (by omega)).mono ?_
            rintro e w3 ⟨f, rfl, r3, t3⟩
            have hpm := HXY.out
            obtain ⟨x, y, hx, hy, g1, g2⟩ := hpm
            have hmid := part_mid d1 a1 b1 p x y hp1 hp2 (by rw [HD1.out]; exact hb1n) hx hy g1 g2
            obtain ⟨mid, hmd⟩ : ∃ mid, mid = (partition ltInt d1 a1 b1 p).1 := ⟨_, rfl⟩
            obtain ⟨d4, hd4⟩ : ∃ d4, d4 = (partition ltInt d1 a1 b1 p).2.2 := ⟨_, rfl⟩
            have hrp := round_part swo_ltInt (partition_holds ltInt) hp1 hp2 (by rw [HD1.out]; exact hb1n) HB1.out (show partition ltInt d1 a1 b1 p = (mid, (partition ltInt d1 a1 b1 p).2.1, d4) by rw [hmd, hd4])
            have hperm := (partition_holds ltInt swo_ltInt d1 a1 b1 p hp1 hp2 (by rw [HD1.out]; exact hb1n)).2.2.1
            rw [← hd4] at r3 hperm
            rw [← hmd] at hmid
            rw [← hmd]
            obtain ⟨_, _, hs4, hBl, hBr, hCl, hCr⟩ := hrp
            have HR4 := Lib.hid r3
            have HT4 := Lib.hid ((HT1.out.drewN _).trans t3)
            have HD4 := Lib.hid (show d4.size = n by rw [hs4]; exact HD1.out)
            have HA4 := Lib.hid (apart_perm HA1.out (by rw [HD1.out]; exact Nat.le_refl n) (permIn_mono _ _ a1 b1 0 n (Nat.zero_le _) hb1n (by rw [HD1.out]; exact Nat.le_refl n) hperm))
            have HBL := Lib.hid hBl
            have HBR := Lib.hid hBr
            have HCL := Lib.hid hCl
            have HCR := Lib.hid hCr
            clear r3 t3 hmd hd4 hs4 hBl hBr hCl hCr hperm g1 g2 hx hy
            obtain ⟨s, hs⟩ : ∃ s, mid = a1 + s := ⟨mid - a1, by omega⟩
            obtain ⟨u, hu⟩ : ∃ u, b1 = mid + u := ⟨b1 - mid, by omega⟩
            have es : (mid : Int) - (a1 : Int) = (s : Int) := by omega
            have eu : (b1 : Int) - (mid : Int) = (u : Int) := by omega
            have lmid : (mid : Int) ≤ 21 := by omega
            have HSU := Lib.hid (show mid = a1 + s ∧ b1 = mid + u ∧ a1 < mid ∧ mid + 1 < b1 from ⟨hs, hu, hmid.1, hmid.2⟩)
            clear hs hu hmid
            by_cases hlr : s < u
            · have hlrI : (s : Int) < (u : Int) := by omega
              go_wp2_with fail
              refine (IH.out s (by have := HSU.out; have := HKL.out; omega) a1 mid l0 d4 _ (by have := HSU.out; omega) (by have := HSU.out; omega) HD4.out HR4.out HA4.out HBL.out (by have := HSU.out; have := HPOT.out; omega) (by omega)).mono ?_
              rintro e w5 ⟨rfl, d5, p5, s5, r5, t5⟩
              have hc5 := HCL.out d5 p5 s5
              have hA5 := apart_perm HA4.out (by rw [HD4.out]; exact Nat.le_refl n) (permIn_mono _ _ a1 mid 0 n (Nat.zero_le _) (by have := HSU.out; omega) (by rw [HD4.out]; exact Nat.le_refl n) p5)
              go_wp2_with fail
              go_roundw
              case rel => exact ⟨mid + 1, b1, l0, _, f, d5, by go_num, rfl, rfl, rfl, rfl, by have := HSU.out; omega, by have := HSU.out; omega, hbb, by have := HSU.out; omega, ⟨fun _ => by have := HSU.out; have := HPOT.out; omega, fun hf => by have := HSU.out; have := HPOT.out; have := HKL.out; have := HE8.out; have hf2 := of_decide_eq_false hf; omega⟩, by omega, Lib.hid ⟨r5, HT4.out.trans t5, by rw [p5.1]; exact HD4.out, hA5, hc5.1, fun R h1 h2 => HC1.out R (hc5.2 R h1 h2).1 (hc5.2 R h1 h2).2⟩⟩
              case measure => first | (simp [intW]; done) | (simp [intW]; have := HSU.out; omega)
            · have hlrI : ¬ (s : Int) < (u : Int) := by omega
              go_wp2_with fail
              refine (IH.out (u - 1) (by have := HSU.out; have := HKL.out; omega) (mid + 1) b1 l0 d4 _ (by have := HSU.out; omega) hb1n HD4.out HR4.out HA4.out HBR.out (by have := HSU.out; have := HPOT.out; omega) (by omega)).mono ?_
              rintro e w5 ⟨rfl, d5, p5, s5, r5, t5⟩
              have hc5 := HCR.out d5 p5 s5
              have hA5 := apart_perm HA4.out (by rw [HD4.out]; exact Nat.le_refl n) (permIn_mono _ _ (mid + 1) b1 0 n (Nat.zero_le _) hb1n (by rw [HD4.out]; exact Nat.le_refl n) p5)
              go_wp2_with fail
              go_roundw
              case rel => exact ⟨a1, mid, l0, _, f, d5, rfl, rfl, rfl, rfl, rfl, haa, by have := HSU.out; omega, by have := HSU.out; omega, by have := HSU.out; omega, ⟨fun _ => by have := HSU.out; have := HPOT.out; omega, fun hf => by have := HSU.out; have := HPOT.out; have := HKL.out; have := HE8.out; have hf2 := of_decide_eq_false hf; omega⟩, by omega, Lib.hid ⟨r5, HT4.out.trans t5, by rw [p5.1]; exact HD4.out, hA5, hc5.1, fun R h1 h2 => HC1.out R (hc5.2 R h1 h2).1 (hc5.2 R h1 h2).2⟩⟩
              case measure => first | (simp [intW]; done) | (simp [intW]; have := HSU.out; omega)
          · obtain ⟨q, hq⟩ : ∃ q, a1 = q + 1 := ⟨a1 - 1, by omega⟩
            have ha0I : (0 : Int) < (a1 : Int) := by omega
            have ha0N : 0 < a1 := by omega
            have hqI : (a1 : Int) - 1 = (q : Int) := by omega
            have hq0 : (0 : Int) ≤ (q : Int) := by omega
            have hqn : (q : Int) < (n : Int) := by omega
            have hpI : (0 : Int) ≤ (p : Int) := by omega
            have hpN : (p : Int) < (n : Int) := by omega
            have hcq := HR1.out.cell (i := q) (by rw [HD1.out]; omega)
            have hcp := HR1.out.cell (i := p) (by rw [HD1.out]; omega)
            have hlt := below_lt HB1.out (fun i h1 h2 => HA1.out (a1 - 1) i (Nat.zero_le _) (by omega) (by omega)) (by omega) hp1 hp2
            rw [show a1 - 1 = q by omega] at hlt
            obtain ⟨xq, hxq⟩ : ∃ x, x = d1[q]! := ⟨_, rfl⟩
            obtain ⟨xp, hxp⟩ : ∃ x, x = d1[p]! := ⟨_, rfl⟩
            rw [← hxq] at hcq hlt
            rw [← hxp] at hcp hlt
            have HL := Lib.hid hlt
            clear hxq hxp hlt hq
            go_wp2_with fail
            go_quiet (first | (go_at_call 217; refine Calls.quiet_of_same (wLessV _ _ _ _ HL.out)))
            go_wp2_with fail
            refine (wPart g c a1 b1 p n t tl d1 _ HD1.out (HR1.out.drewN _) hp1 hp2 (by omega) hb1n (by omega)).mono ?_
            rintro e w3 ⟨f, rfl, r3, t3⟩
            have hpm := HXY.out
            obtain ⟨x, y, hx, hy, g1, g2⟩ := hpm
            have hmid := part_mid d1 a1 b1 p x y hp1 hp2 (by rw [HD1.out]; exact hb1n) hx hy g1 g2
            obtain ⟨mid, hmd⟩ : ∃ mid, mid = (partition ltInt d1 a1 b1 p).1 := ⟨_, rfl⟩
            obtain ⟨d4, hd4⟩ : ∃ d4, d4 = (partition ltInt d1 a1 b1 p).2.2 := ⟨_, rfl⟩
            have hrp := round_part swo_ltInt (partition_holds ltInt) hp1 hp2 (by rw [HD1.out]; exact hb1n) HB1.out (show partition ltInt d1 a1 b1 p = (mid, (partition ltInt d1 a1 b1 p).2.1, d4) by rw [hmd, hd4])
            have hperm := (partition_holds ltInt swo_ltInt d1 a1 b1 p hp1 hp2 (by rw [HD1.out]; exact hb1n)).2.2.1
            rw [← hd4] at r3 hperm
            rw [← hmd] at hmid
            rw [← hmd]
            obtain ⟨_, _, hs4, hBl, hBr, hCl, hCr⟩ := hrp
            have HR4 := Lib.hid r3
            have HT4 := Lib.hid ((HT1.out.drewN _).trans t3)
            have HD4 := Lib.hid (show d4.size = n by rw [hs4]; exact HD1.out)
            have HA4 := Lib.hid (apart_perm HA1.out (by rw [HD1.out]; exact Nat.le_refl n) (permIn_mono _ _ a1 b1 0 n (Nat.zero_le _) hb1n (by rw [HD1.out]; exact Nat.le_refl n) hperm))
            have HBL := Lib.hid hBl
            have HBR := Lib.hid hBr
            have HCL := Lib.hid hCl
            have HCR := Lib.hid hCr
            clear r3 t3 hmd hd4 hs4 hBl hBr hCl hCr hperm g1 g2 hx hy
            obtain ⟨s, hs⟩ : ∃ s, mid = a1 + s := ⟨mid - a1, by omega⟩
            obtain ⟨u, hu⟩ : ∃ u, b1 = mid + u := ⟨b1 - mid, by omega⟩
            have es : (mid : Int) - (a1 : Int) = (s : Int) := by omega
            have eu : (b1 : Int) - (mid : Int) = (u : Int) := by omega
            have lmid : (mid : Int) ≤ 21 := by omega
            have HSU := Lib.hid (show mid = a1 + s ∧ b1 = mid + u ∧ a1 < mid ∧ mid + 1 < b1 from ⟨hs, hu, hmid.1, hmid.2⟩)
            clear hs hu hmid
            by_cases hlr : s < u
            · have hlrI : (s : Int) < (u : Int) := by omega
              go_wp2_with fail
              refine (IH.out s (by have := HSU.out; have := HKL.out; omega) a1 mid l0 d4 _ (by have := HSU.out; omega) (by have := HSU.out; omega) HD4.out HR4.out HA4.out HBL.out (by have := HSU.out; have := HPOT.out; omega) (by omega)).mono ?_
              rintro e w5 ⟨rfl, d5, p5, s5, r5, t5⟩
              have hc5 := HCL.out d5 p5 s5
              have hA5 := apart_perm HA4.out (by rw [HD4.out]; exact Nat.le_refl n) (permIn_mono _ _ a1 mid 0 n (Nat.zero_le _) (by have := HSU.out; omega) (by rw [HD4.out]; exact Nat.le_refl n) p5)
              go_wp2_with fail
              go_roundw
              case rel => exact ⟨mid + 1, b1, l0, _, f, d5, by go_num, rfl, rfl, rfl, rfl, by have := HSU.out; omega, by have := HSU.out; omega, hbb, by have := HSU.out; omega, ⟨fun _ => by have := HSU.out; have := HPOT.out; omega, fun hf => by have := HSU.out; have := HPOT.out; have := HKL.out; have := HE8.out; have hf2 := of_decide_eq_false hf; omega⟩, by omega, Lib.hid ⟨r5, HT4.out.trans t5, by rw [p5.1]; exact HD4.out, hA5, hc5.1, fun R h1 h2 => HC1.out R (hc5.2 R h1 h2).1 (hc5.2 R h1 h2).2⟩⟩
              case measure => first | (simp [intW]; done) | (simp [intW]; have := HSU.out; omega)
            · have hlrI : ¬ (s : Int) < (u : Int) := by omega
              go_wp2_with fail
              refine (IH.out (u - 1) (by have := HSU.out; have := HKL.out; omega) (mid + 1) b1 l0 d4 _ (by have := HSU.out; omega) hb1n HD4.out HR4.out HA4.out HBR.out (by have := HSU.out; have := HPOT.out; omega) (by omega)).mono ?_
              rintro e w5 ⟨rfl, d5, p5, s5, r5, t5⟩
              have hc5 := HCR.out d5 p5 s5
              have hA5 := apart_perm HA4.out (by rw [HD4.out]; exact Nat.le_refl n) (permIn_mono _ _ (mid + 1) b1 0 n (Nat.zero_le _) hb1n (by rw [HD4.out]; exact Nat.le_refl n) p5)
              go_wp2_with fail
              go_roundw
              case rel => exact ⟨a1, mid, l0, _, f, d5, rfl, rfl, rfl, rfl, rfl, haa, by have := HSU.out; omega, by have := HSU.out; omega, by have := HSU.out; omega, ⟨fun _ => by have := HSU.out; have := HPOT.out; omega, fun hf => by have := HSU.out; have := HPOT.out; have := HKL.out; have := HE8.out; have hf2 := of_decide_eq_false hf; omega⟩, by omega, Lib.hid ⟨r5, HT4.out.trans t5, by rw [p5.1]; exact HD4.out, hA5, hc5.1, fun R h1 h2 => HC1.out R (hc5.2 R h1 h2).1 (hc5.2 R h1 h2).2⟩⟩
              case measure => first | (simp [intW]; done) | (simp [intW]; have := HSU.out; omega)
        · rcases hh with rfl | rfl
          · go_wp2_with fail
            by_cases ha0 : a1 = 0
            · have ha0I : ¬ (0 : Int) < (a1 : Int) := by omega
              have ha0N : ¬ 0 < a1 := by omega
              have hcp := HR1.out.cell (i := p) (by rw [HD1.out]; omega)
              have hpI : (0 : Int) ≤ (p : Int) := by omega
              have hpN : (p : Int) < (n : Int) := by omega
              clear ha0
              go_wp2_with fail
              go_quiet (first | (go_at_call 217; refine Calls.quiet_of_same (wLess _ _ _)))
              go_wp2_with fail
              refine (wPart g c a1 b1 p n t tl d1 _ HD1.out (HR1.out.drewN _) hp1 hp2 (by omega) hb1n (by omega)).mono ?_
              rintro e w3 ⟨f, rfl, r3, t3⟩
              have hpm := HXY.out
              obtain ⟨x, y, hx, hy, g1, g2⟩ := hpm
              have hmid := part_mid d1 a1 b1 p x y hp1 hp2 (by rw [HD1.out]; exact hb1n) hx hy g1 g2
              obtain ⟨mid, hmd⟩ : ∃ mid, mid = (partition ltInt d1 a1 b1 p).1 := ⟨_, rfl⟩
              obtain ⟨d4, hd4⟩ : ∃ d4, d4 = (partition ltInt d1 a1 b1 p).2.2 := ⟨_, rfl⟩
              have hrp := round_part swo_ltInt (partition_holds ltInt) hp1 hp2 (by rw [HD1.out]; exact hb1n) HB1.out (show partition ltInt d1 a1 b1 p = (mid, (partition ltInt d1 a1 b1 p).2.1, d4) by rw [hmd, hd4])
              have hperm := (partition_holds ltInt swo_ltInt d1 a1 b1 p hp1 hp2 (by rw [HD1.out]; exact hb1n)).2.2.1
              rw [← hd4] at r3 hperm
              rw [← hmd] at hmid
              rw [← hmd]
              obtain ⟨_, _, hs4, hBl, hBr, hCl, hCr⟩ := hrp
              have HR4 := Lib.hid r3
              have HT4 := Lib.hid ((HT1.out.drewN _).trans t3)
              have HD4 := Lib.hid (show d4.size = n by rw [hs4]; exact HD1.out)
              have HA4 := Lib.hid (apart_perm HA1.out (by rw [HD1.out]; exact Nat.le_refl n) (permIn_mono _ _ a1 b1 0 n (Nat.zero_le _) hb1n (by rw [HD1.out]; exact Nat.le_refl n) hperm))
              have HBL := Lib.hid hBl
              have HBR := Lib.hid hBr
              have HCL := Lib.hid hCl
              have HCR := Lib.hid hCr
              clear r3 t3 hmd hd4 hs4 hBl hBr hCl hCr hperm g1 g2 hx hy
              obtain ⟨s, hs⟩ : ∃ s, mid = a1 + s := ⟨mid - a1, by omega⟩
              obtain ⟨u, hu⟩ : ∃ u, b1 = mid + u := ⟨b1 - mid, by omega⟩
              have es : (mid : Int) - (a1 : Int) = (s : Int) := by omega
              have eu : (b1 : Int) - (mid : Int) = (u : Int) := by omega
              have lmid : (mid : Int) ≤ 21 := by omega
              have HSU := Lib.hid (show mid = a1 + s ∧ b1 = mid + u ∧ a1 < mid ∧ mid + 1 < b1 from ⟨hs, hu, hmid.1, hmid.2⟩)
              clear hs hu hmid
              by_cases hlr : s < u
              · have hlrI : (s : Int) < (u : Int) := by omega
                go_wp2_with fail
                refine (IH.out s (by have := HSU.out; have := HKL.out; omega) a1 mid l0 d4 _ (by have := HSU.out; omega) (by have := HSU.out; omega) HD4.out HR4.out HA4.out HBL.out (by have := HSU.out; have := HPOT.out; omega) (by omega)).mono ?_
                rintro e w5 ⟨rfl, d5, p5, s5, r5, t5⟩
                have hc5 := HCL.out d5 p5 s5
                have hA5 := apart_perm HA4.out (by rw [HD4.out]; exact Nat.le_refl n) (permIn_mono _ _ a1 mid 0 n (Nat.zero_le _) (by have := HSU.out; omega) (by rw [HD4.out]; exact Nat.le_refl n) p5)
                go_wp2_with fail
                go_roundw
                case rel => exact ⟨mid + 1, b1, l0, _, f, d5, by go_num, rfl, rfl, rfl, rfl, by have := HSU.out; omega, by have := HSU.out; omega, hbb, by have := HSU.out; omega, ⟨fun _ => by have := HSU.out; have := HPOT.out; omega, fun hf => by have := HSU.out; have := HPOT.out; have := HKL.out; have := HE8.out; have hf2 := of_decide_eq_false hf; omega⟩, by omega, Lib.hid ⟨r5, HT4.out.trans t5, by rw [p5.1]; exact HD4.out, hA5, hc5.1, fun R h1 h2 => HC1.out R (hc5.2 R h1 h2).1 (hc5.2 R h1 h2).2⟩⟩
                case measure => first | (simp [intW]; done) | (simp [intW]; have := HSU.out; omega)
              · have hlrI : ¬ (s : Int) < (u : Int) := by omega
                go_wp2_with fail
                refine (IH.out (u - 1) (by have := HSU.out; have := HKL.out; omega) (mid + 1) b1 l0 d4 _ (by have := HSU.out; omega) hb1n HD4.out HR4.out HA4.out HBR.out (by have := HSU.out; have := HPOT.out; omega) (by omega)).mono ?_
                rintro e w5 ⟨rfl, d5, p5, s5, r5, t5⟩
                have hc5 := HCR.out d5 p5 s5
                have hA5 := apart_perm HA4.out (by rw [HD4.out]; exact Nat.le_refl n) (permIn_mono _ _ (mid + 1) b1 0 n (Nat.zero_le _) hb1n (by rw [HD4.out]; exact Nat.le_refl n) p5)
                go_wp2_with fail
                go_roundw
                case rel => exact ⟨a1, mid, l0, _, f, d5, rfl, rfl, rfl, rfl, rfl, haa, by have := HSU.out; omega, by have := HSU.out; omega, by have := HSU.out; omega, ⟨fun _ => by have := HSU.out; have := HPOT.out; omega, fun hf => by have := HSU.out; have := HPOT.out; have := HKL.out; have := HE8.out; have hf2 := of_decide_eq_false hf; omega⟩, by omega, Lib.hid ⟨r5, HT4.out.trans t5, by rw [p5.1]; exact HD4.out, hA5, hc5.1, fun R h1 h2 => HC1.out R (hc5.2 R h1 h2).1 (hc5.2 R h1 h2).2⟩⟩
                case measure => first | (simp [intW]; done) | (simp [intW]; have := HSU.out; omega)
            · obtain ⟨q, hq⟩ : ∃ q, a1 = q + 1 := ⟨a1 - 1, by omega⟩
              have ha0I : (0 : Int) < (a1 : Int) := by omega
              have ha0N : 0 < a1 := by omega
              have hqI : (a1 : Int) - 1 = (q : Int) := by omega
              have hq0 : (0 : Int) ≤ (q : Int) := by omega
              have hqn : (q : Int) < (n : Int) := by omega
              have hpI : (0 : Int) ≤ (p : Int) := by omega
              have hpN : (p : Int) < (n : Int) := by omega
              have hcq := HR1.out.cell (i := q) (by rw [HD1.out]; omega)
              have hcp := HR1.out.cell (i := p) (by rw [HD1.out]; omega)
              have hlt := below_lt HB1.out (fun i h1 h2 => HA1.out (a1 - 1) i (Nat.zero_le _) (by omega) (by omega)) (by omega) hp1 hp2
              rw [show a1 - 1 = q by omega] at hlt
              obtain ⟨xq, hxq⟩ : ∃ x, x = d1[q]! := ⟨_, rfl⟩
              obtain ⟨xp, hxp⟩ : ∃ x, x = d1[p]! := ⟨_, rfl⟩
              rw [← hxq] at hcq hlt
              rw [← hxp] at hcp hlt
              have HL := Lib.hid hlt
              clear hxq hxp hlt hq
              go_wp2_with fail
              go_quiet (first | (go_at_call 217; refine Calls.quiet_of_same (wLessV _ _ _ _ HL.out)))
              go_wp2_with fail
              refine (wPart g c a1 b1 p n t tl d1 _ HD1.out (HR1.out.drewN _) hp1 hp2 (by omega) hb1n (by omega)).mono ?_
              rintro e w3 ⟨f, rfl, r3, t3⟩
              have hpm := HXY.out
              obtain ⟨x, y, hx, hy, g1, g2⟩ := hpm
              have hmid := part_mid d1 a1 b1 p x y hp1 hp2 (by rw [HD1.out]; exact hb1n) hx hy g1 g2
              obtain ⟨mid, hmd⟩ : ∃ mid, mid = (partition ltInt d1 a1 b1 p).1 := ⟨_, rfl⟩
              obtain ⟨d4, hd4⟩ : ∃ d4, d4 = (partition ltInt d1 a1 b1 p).2.2 := ⟨_, rfl⟩
              have hrp := round_part swo_ltInt (partition_holds ltInt) hp1 hp2 (by rw [HD1.out]; exact hb1n) HB1.out (show partition ltInt d1 a1 b1 p = (mid, (partition ltInt d1 a1 b1 p).2.1, d4) by rw [hmd, hd4])
              have hperm := (partition_holds ltInt swo_ltInt d1 a1 b1 p hp1 hp2 (by rw [HD1.out]; exact hb1n)).2.2.1
              rw [← hd4] at r3 hperm
              rw [← hmd] at hmid
              rw [← hmd]
              obtain ⟨_, _, hs4, hBl, hBr, hCl, hCr⟩ := hrp
              have HR4 := Lib.hid r3
              have HT4 := Lib.hid ((HT1.out.drewN _).trans t3)
              have HD4 := Lib.hid (show d4.size = n by rw [hs4]; exact HD1.out)
              have HA4 := Lib.hid (apart_perm HA1.out (by rw [HD1.out]; exact Nat.le_refl n) (permIn_mono _ _ a1 b1 0 n (Nat.zero_le _) hb1n (by rw [HD1.out]; exact Nat.le_refl n) hperm))
              have HBL := Lib.hid hBl
              have HBR := Lib.hid hBr
              have HCL := Lib.hid hCl
              have HCR := Lib.hid hCr
              clear r3 t3 hmd hd4 hs4 hBl hBr hCl hCr hperm g1 g2 hx hy
              obtain ⟨s, hs⟩ : ∃ s, mid = a1 + s := ⟨mid - a1, by omega⟩
              obtain ⟨u, hu⟩ : ∃ u, b1 = mid + u := ⟨b1 - mid, by omega⟩
              have es : (mid : Int) - (a1 : Int) = (s : Int) := by omega
              have eu : (b1 : Int) - (mid : Int) = (u : Int) := by omega
              have lmid : (mid : Int) ≤ 21 := by omega
              have HSU := Lib.hid (show mid = a1 + s ∧ b1 = mid + u ∧ a1 < mid ∧ mid + 1 < b1 from ⟨hs, hu, hmid.1, hmid.2⟩)
              clear hs hu hmid
              by_cases hlr : s < u
              · have hlrI : (s : Int) < (u : Int) := by omega
                go_wp2_with fail
                refine (IH.out s (by have := HSU.out; have := HKL.out; omega) a1 mid l0 d4 _ (by have := HSU.out; omega) (by have := HSU.out; omega) HD4.out HR4.out HA4.out HBL.out (by have := HSU.out; have := HPOT.out; omega) (by omega)).mono ?_
                rintro e w5 ⟨rfl, d5, p5, s5, r5, t5⟩
                have hc5 := HCL.out d5 p5 s5
                have hA5 := apart_perm HA4.out (by rw [HD4.out]; exact Nat.le_refl n) (permIn_mono _ _ a1 mid 0 n (Nat.zero_le _) (by have := HSU.out; omega) (by rw [HD4.out]; exact Nat.le_refl n) p5)
                go_wp2_with fail
                go_roundw
                case rel => exact ⟨mid + 1, b1, l0, _, f, d5, by go_num, rfl, rfl, rfl, rfl, by have := HSU.out; omega, by have := HSU.out; omega, hbb, by have := HSU.out; omega, ⟨fun _ => by have := HSU.out; have := HPOT.out; omega, fun hf => by have := HSU.out; have := HPOT.out; have := HKL.out; have := HE8.out; have hf2 := of_decide_eq_false hf; omega⟩, by omega, Lib.hid ⟨r5, HT4.out.trans t5, by rw [p5.1]; exact HD4.out, hA5, hc5.1, fun R h1 h2 => HC1.out R (hc5.2 R h1 h2).1 (hc5.2 R h1 h2).2⟩⟩
                case measure => first | (simp [intW]; done) | (simp [intW]; have := HSU.out; omega)
              · have hlrI : ¬ (s : Int) < (u : Int) := by omega
                go_wp2_with fail
                refine (IH.out (u - 1) (by have := HSU.out; have := HKL.out; omega) (mid + 1) b1 l0 d4 _ (by have := HSU.out; omega) hb1n HD4.out HR4.out HA4.out HBR.out (by have := HSU.out; have := HPOT.out; omega) (by omega)).mono ?_
                rintro e w5 ⟨rfl, d5, p5, s5, r5, t5⟩
                have hc5 := HCR.out d5 p5 s5
                have hA5 := apart_perm HA4.out (by rw [HD4.out]; exact Nat.le_refl n) (permIn_mono _ _ (mid + 1) b1 0 n (Nat.zero_le _) hb1n (by rw [HD4.out]; exact Nat.le_refl n) p5)
                go_wp2_with fail
                go_roundw
                case rel => exact ⟨a1, mid, l0, _, f, d5, rfl, rfl, rfl, rfl, rfl, haa, by have := HSU.out; omega, by have := HSU.out; omega, by have := HSU.out; omega, ⟨fun _ => by have := HSU.out; have := HPOT.out; omega, fun hf => by have := HSU.out; have := HPOT.out; have := HKL.out; have := HE8.out; have hf2 := of_decide_eq_false hf; omega⟩, by omega, Lib.hid ⟨r5, HT4.out.trans t5, by rw [p5.1]; exact HD4.out, hA5, hc5.1, fun R h1 h2 => HC1.out R (hc5.2 R h1 h2).1 (hc5.2 R h1 h2).2⟩⟩
                case measure => first | (simp [intW]; done) | (simp [intW]; have := HSU.out; omega)
          · go_wp2_with fail
            refine (wPartial g c a1 b1 n t tl d1 _ HD1.out HR1.out (by omega) hb1n (by omega)).mono ?_
            rintro e wy ⟨r, rfl, hsr, ky, rfl⟩
            have HRy := Lib.hid (HR1.out.drewN ky)
            have HTy := Lib.hid (HT1.out.drewN ky)
            clear HR1 HT1
            have HR1 := HRy
            have HT1 := HTy
            cases r
            · clear hsr
              generalize w2.drewN ky = wz at *
              go_wp2_with fail
              by_cases ha0 : a1 = 0
              · have ha0I : ¬ (0 : Int) < (a1 : Int) := by omega
                have ha0N : ¬ 0 < a1 := by omega
                have hcp := HR1.out.cell (i := p) (by rw [HD1.out]; omega)
                have hpI : (0 : Int) ≤ (p : Int) := by omega
                have hpN : (p : Int) < (n : Int) := by omega
                clear ha0
                go_wp2_with fail
                go_quiet (first | (go_at_call 217; refine Calls.quiet_of_same (wLess _ _ _)))
                go_wp2_with fail
                refine (wPart g c a1 b1 p n t tl d1 _ HD1.out (HR1.out.drewN _) hp1 hp2 (by omega) hb1n (by omega)).mono ?_
                rintro e w3 ⟨f, rfl, r3, t3⟩
                have hpm := HXY.out
                obtain ⟨x, y, hx, hy, g1, g2⟩ := hpm
                have hmid := part_mid d1 a1 b1 p x y hp1 hp2 (by rw [HD1.out]; exact hb1n) hx hy g1 g2
                obtain ⟨mid, hmd⟩ : ∃ mid, mid = (partition ltInt d1 a1 b1 p).1 := ⟨_, rfl⟩
                obtain ⟨d4, hd4⟩ : ∃ d4, d4 = (partition ltInt d1 a1 b1 p).2.2 := ⟨_, rfl⟩
                have hrp := round_part swo_ltInt (partition_holds ltInt) hp1 hp2 (by rw [HD1.out]; exact hb1n) HB1.out (show partition ltInt d1 a1 b1 p = (mid, (partition ltInt d1 a1 b1 p).2.1, d4) by rw [hmd, hd4])
                have hperm := (partition_holds ltInt swo_ltInt d1 a1 b1 p hp1 hp2 (by rw [HD1.out]; exact hb1n)).2.2.1
                rw [← hd4] at r3 hperm
                rw [← hmd] at hmid
                rw [← hmd]
                obtain ⟨_, _, hs4, hBl, hBr, hCl, hCr⟩ := hrp
                have HR4 := Lib.hid r3
                have HT4 := Lib.hid ((HT1.out.drewN _).trans t3)
                have HD4 := Lib.hid (show d4.size = n by rw [hs4]; exact HD1.out)
                have HA4 := Lib.hid (apart_perm HA1.out (by rw [HD1.out]; exact Nat.le_refl n) (permIn_mono _ _ a1 b1 0 n (Nat.zero_le _) hb1n (by rw [HD1.out]; exact Nat.le_refl n) hperm))
                have HBL := Lib.hid hBl
                have HBR := Lib.hid hBr
                have HCL := Lib.hid hCl
                have HCR := Lib.hid hCr
                clear r3 t3 hmd hd4 hs4 hBl hBr hCl hCr hperm g1 g2 hx hy
                obtain ⟨s, hs⟩ : ∃ s, mid = a1 + s := ⟨mid - a1, by omega⟩
                obtain ⟨u, hu⟩ : ∃ u, b1 = mid + u := ⟨b1 - mid, by omega⟩
                have es : (mid : Int) - (a1 : Int) = (s : Int) := by omega
                have eu : (b1 : Int) - (mid : Int) = (u : Int) := by omega
                have lmid : (mid : Int) ≤ 21 := by omega
                have HSU := Lib.hid (show mid = a1 + s ∧ b1 = mid + u ∧ a1 < mid ∧ mid + 1 < b1 from ⟨hs, hu, hmid.1, hmid.2⟩)
                clear hs hu hmid
                by_cases hlr : s < u
                · have hlrI : (s : Int) < (u : Int) := by omega
                  go_wp2_with fail
                  refine (IH.out s (by have := HSU.out; have := HKL.out; omega) a1 mid l0 d4 _ (by have := HSU.out; omega) (by have := HSU.out; omega) HD4.out HR4.out HA4.out HBL.out (by have := HSU.out; have := HPOT.out; omega) (by omega)).mono ?_
                  rintro e w5 ⟨rfl, d5, p5, s5, r5, t5⟩
                  have hc5 := HCL.out d5 p5 s5
                  have hA5 := apart_perm HA4.out (by rw [HD4.out]; exact Nat.le_refl n) (permIn_mono _ _ a1 mid 0 n (Nat.zero_le _) (by have := HSU.out; omega) (by rw [HD4.out]; exact Nat.le_refl n) p5)
                  go_wp2_with fail
                  go_roundw
                  case rel => exact ⟨mid + 1, b1, l0, _, f, d5, by go_num, rfl, rfl, rfl, rfl, by have := HSU.out; omega, by have := HSU.out; omega, hbb, by have := HSU.out; omega, ⟨fun _ => by have := HSU.out; have := HPOT.out; omega, fun hf => by have := HSU.out; have := HPOT.out; have := HKL.out; have := HE8.out; have hf2 := of_decide_eq_false hf; omega⟩, by omega, Lib.hid ⟨r5, HT4.out.trans t5, by rw [p5.1]; exact HD4.out, hA5, hc5.1, fun R h1 h2 => HC1.out R (hc5.2 R h1 h2).1 (hc5.2 R h1 h2).2⟩⟩
                  case measure => first | (simp [intW]; done) | (simp [intW]; have := HSU.out; omega)
                · have hlrI : ¬ (s : Int) < (u : Int) := by omega
                  go_wp2_with fail
                  refine (IH.out (u - 1) (by have := HSU.out; have := HKL.out; omega) (mid + 1) b1 l0 d4 _ (by have := HSU.out; omega) hb1n HD4.out HR4.out HA4.out HBR.out (by have := HSU.out; have := HPOT.out; omega) (by omega)).mono ?_
                  rintro e w5 ⟨rfl, d5, p5, s5, r5, t5⟩
                  have hc5 := HCR.out d5 p5 s5
                  have hA5 := apart_perm HA4.out (by rw [HD4.out]; exact Nat.le_refl n) (permIn_mono _ _ (mid + 1) b1 0 n (Nat.zero_le _) hb1n (by rw [HD4.out]; exact Nat.le_refl n) p5)
                  go_wp2_with fail
                  go_roundw
                  case rel => exact ⟨a1, mid, l0, _, f, d5, rfl, rfl, rfl, rfl, rfl, haa, by have := HSU.out; omega, by have := HSU.out; omega, by have := HSU.out; omega, ⟨fun _ => by have := HSU.out; have := HPOT.out; omega, fun hf => by have := HSU.out; have := HPOT.out; have := HKL.out; have := HE8.out; have hf2 := of_decide_eq_false hf; omega⟩, by omega, Lib.hid ⟨r5, HT4.out.trans t5, by rw [p5.1]; exact HD4.out, hA5, hc5.1, fun R h1 h2 => HC1.out R (hc5.2 R h1 h2).1 (hc5.2 R h1 h2).2⟩⟩
                  case measure => first | (simp [intW]; done) | (simp [intW]; have := HSU.out; omega)
              · obtain ⟨q, hq⟩ : ∃ q, a1 = q + 1 := ⟨a1 - 1, by omega⟩
                have ha0I : (0 : Int) < (a1 : Int) := by omega
                have ha0N : 0 < a1 := by omega
                have hqI : (a1 : Int) - 1 = (q : Int) := by omega
                have hq0 : (0 : Int) ≤ (q : Int) := by omega
                have hqn : (q : Int) < (n : Int) := by omega
                have hpI : (0 : Int) ≤ (p : Int) := by omega
                have hpN : (p : Int) < (n : Int) := by omega
                have hcq := HR1.out.cell (i := q) (by rw [HD1.out]; omega)
                have hcp := HR1.out.cell (i := p) (by rw [HD1.out]; omega)
                have hlt := below_lt HB1.out (fun i h1 h2 => HA1.out (a1 - 1) i (Nat.zero_le _) (by omega) (by omega)) (by omega) hp1 hp2
                rw [show a1 - 1 = q by omega] at hlt
                obtain ⟨xq, hxq⟩ : ∃ x, x = d1[q]! := ⟨_, rfl⟩
                obtain ⟨xp, hxp⟩ : ∃ x, x = d1[p]! := ⟨_, rfl⟩
                rw [← hxq] at hcq hlt
                rw [← hxp] at hcp hlt
                have HL := Lib.hid hlt
                clear hxq hxp hlt hq
                go_wp2_with fail
                go_quiet (first | (go_at_call 217; refine Calls.quiet_of_same (wLessV _ _ _ _ HL.out)))
                go_wp2_with fail
                refine (wPart g c a1 b1 p n t tl d1 _ HD1.out (HR1.out.drewN _) hp1 hp2 (by omega) hb1n (by omega)).mono ?_
                rintro e w3 ⟨f, rfl, r3, t3⟩
                have hpm := HXY.out
                obtain ⟨x, y, hx, hy, g1, g2⟩ := hpm
                have hmid := part_mid d1 a1 b1 p x y hp1 hp2 (by rw [HD1.out]; exact hb1n) hx hy g1 g2
                obtain ⟨mid, hmd⟩ : ∃ mid, mid = (partition ltInt d1 a1 b1 p).1 := ⟨_, rfl⟩
                obtain ⟨d4, hd4⟩ : ∃ d4, d4 = (partition ltInt d1 a1 b1 p).2.2 := ⟨_, rfl⟩
                have hrp := round_part swo_ltInt (partition_holds ltInt) hp1 hp2 (by rw [HD1.out]; exact hb1n) HB1.out (show partition ltInt d1 a1 b1 p = (mid, (partition ltInt d1 a1 b1 p).2.1, d4) by rw [hmd, hd4])
                have hperm := (partition_holds ltInt swo_ltInt d1 a1 b1 p hp1 hp2 (by rw [HD1.out]; exact hb1n)).2.2.1
                rw [← hd4] at r3 hperm
                rw [← hmd] at hmid
                rw [← hmd]
                obtain ⟨_, _, hs4, hBl, hBr, hCl, hCr⟩ := hrp
                have HR4 := Lib.hid r3
                have HT4 := Lib.hid ((HT1.out.drewN _).trans t3)
                have HD4 := Lib.hid (show d4.size = n by rw [hs4]; exact HD1.out)
                have HA4 := Lib.hid (apart_perm HA1.out (by rw [HD1.out]; exact Nat.le_refl n) (permIn_mono _ _ a1 b1 0 n (Nat.zero_le _) hb1n (by rw [HD1.out]; exact Nat.le_refl n) hperm))
                have HBL := Lib.hid hBl
                have HBR := Lib.hid hBr
                have HCL := Lib.hid hCl
                have HCR := Lib.hid hCr
                clear r3 t3 hmd hd4 hs4 hBl hBr hCl hCr hperm g1 g2 hx hy
                obtain ⟨s, hs⟩ : ∃ s, mid = a1 + s := ⟨mid - a1, by omega⟩
                obtain ⟨u, hu⟩ : ∃ u, b1 = mid + u := ⟨b1 - mid, by omega⟩
                have es : (mid : Int) - (a1 : Int) = (s : Int) := by omega
                have eu : (b1 : Int) - (mid : Int) = (u : Int) := by omega
                have lmid : (mid : Int) ≤ 21 := by omega
                have HSU := Lib.hid (show mid = a1 + s ∧ b1 = mid + u ∧ a1 < mid ∧ mid + 1 < b1 from ⟨hs, hu, hmid.1, hmid.2⟩)
                clear hs hu hmid
                by_cases hlr : s < u
                · have hlrI : (s : Int) < (u : Int) := by omega
                  go_wp2_with fail
                  refine (IH.out s (by have := HSU.out; have := HKL.out; omega) a1 mid l0 d4 _ (by have := HSU.out; omega) (by have := HSU.out; omega) HD4.out HR4.out HA4.out HBL.out (by have := HSU.out; have := HPOT.out; omega) (by omega)).mono ?_
                  rintro e w5 ⟨rfl, d5, p5, s5, r5, t5⟩
                  have hc5 := HCL.out d5 p5 s5
                  have hA5 := apart_perm HA4.out (by rw [HD4.out]; exact Nat.le_refl n) (permIn_mono _ _ a1 mid 0 n (Nat.zero_le _) (by have := HSU.out; omega) (by rw [HD4.out]; exact Nat.le_refl n) p5)
                  go_wp2_with fail
                  go_roundw
                  case rel => exact ⟨mid + 1, b1, l0, _, f, d5, by go_num, rfl, rfl, rfl, rfl, by have := HSU.out; omega, by have := HSU.out; omega, hbb, by have := HSU.out; omega, ⟨fun _ => by have := HSU.out; have := HPOT.out; omega, fun hf => by have := HSU.out; have := HPOT.out; have := HKL.out; have := HE8.out; have hf2 := of_decide_eq_false hf; omega⟩, by omega, Lib.hid ⟨r5, HT4.out.trans t5, by rw [p5.1]; exact HD4.out, hA5, hc5.1, fun R h1 h2 => HC1.out R (hc5.2 R h1 h2).1 (hc5.2 R h1 h2).2⟩⟩
                  case measure => first | (simp [intW]; done) | (simp [intW]; have := HSU.out; omega)
                · have hlrI : ¬ (s : Int) < (u : Int) := by omega
                  go_wp2_with fail
                  refine (IH.out (u - 1) (by have := HSU.out; have := HKL.out; omega) (mid + 1) b1 l0 d4 _ (by have := HSU.out; omega) hb1n HD4.out HR4.out HA4.out HBR.out (by have := HSU.out; have := HPOT.out; omega) (by omega)).mono ?_
                  rintro e w5 ⟨rfl, d5, p5, s5, r5, t5⟩
                  have hc5 := HCR.out d5 p5 s5
                  have hA5 := apart_perm HA4.out (by rw [HD4.out]; exact Nat.le_refl n) (permIn_mono _ _ (mid + 1) b1 0 n (Nat.zero_le _) hb1n (by rw [HD4.out]; exact Nat.le_refl n) p5)
                  go_wp2_with fail
                  go_roundw
                  case rel => exact ⟨a1, mid, l0, _, f, d5, rfl, rfl, rfl, rfl, rfl, haa, by have := HSU.out; omega, by have := HSU.out; omega, by have := HSU.out; omega, ⟨fun _ => by have := HSU.out; have := HPOT.out; omega, fun hf => by have := HSU.out; have := HPOT.out; have := HKL.out; have := HE8.out; have hf2 := of_decide_eq_false hf; omega⟩, by omega, Lib.hid ⟨r5, HT4.out.trans t5, by rw [p5.1]; exact HD4.out, hA5, hc5.1, fun R h1 h2 => HC1.out R (hc5.2 R h1 h2).1 (hc5.2 R h1 h2).2⟩⟩
                  case measure => first | (simp [intW]; done) | (simp [intW]; have := HSU.out; omega)
            · have HC := Lib.hid (HC1.out d1 (permIn_refl _ _ _) (hsr rfl))
              go_wp2_with fail
              ((try simp only [Exit.inBlock, Exit.then]); refine bodyPost_ret (results_none rfl _ _ _) rfl ?_)
              exact ⟨rfl, d1, HC.out.1, HC.out.2, HR1.out, HT1.out⟩
set_option maxRecDepth 100000 in
set_option maxHeartbeats 1000000 in
/-- slices.Sort at 13 to 21 different words. -/
theorem wSort (g c n : Nat) (t : TypeId) (tl : Array Value) (d : Array Int) (w : World) (hn : 13 ≤ n) (hn2 : n ≤ 21) (hd : d.size = n) (hR : RowB w g t tl d) (hA : Apart 0 n d) :
    Calls Tryz.prog 156 #[.slice (some ⟨g, 0, none⟩) n c] w fun e w' =>
      e = .returned (.tuple #[]) ∧ RowB w' g t tl (d.toList.mergeSort fun x y => !ltInt y x).toArray ∧ Trn g w w' := by
  obtain ⟨M, hM⟩ : ∃ M, (n, M) ∈ [(13, 4), (14, 4), (15, 4), (16, 5), (17, 5), (18, 5), (19, 5), (20, 5), (21, 5)] := by
    rcases (by omega : n = 13 ∨ n = 14 ∨ n = 15 ∨ n = 16 ∨ n = 17 ∨ n = 18 ∨ n = 19 ∨ n = 20 ∨ n = 21) with rfl | rfl | rfl | rfl | rfl | rfl | rfl | rfl | rfl
    · exact ⟨4, by decide⟩
    · exact ⟨4, by decide⟩
    · exact ⟨4, by decide⟩
    all_goals exact ⟨5, by decide⟩
  have hM2 : 10 + n ≤ 2 * M + 21 ∧ M ≤ 64 := by
    simp only [List.mem_cons, List.not_mem_nil, or_false, Prod.mk.injEq] at hM
    omega
  have HLEN := Lib.hid (fun W => wLen64 n M W hM)
  have HPD := Lib.hid (wPdq g c n t tl hn2 n 0 n M d w (by omega) (Nat.le_refl _) hd hR hA (.inl rfl) hM2.1 hM2.2)
  have HU := Lib.hid (fun (d' : Array Int) (h1 : PermIn 0 n d d') (h2 : SortedIn ltInt 0 n d') => show d'.toList = d.toList.mergeSort (fun x y => !ltInt y x) from
    sorted_unique_holds (lt := ltInt) swo_ltInt (fun x y h1 h2 => by rw [ltI_no] at h1 h2; omega) d d' (by rw [hd]; exact h1) (by rw [hd]; exact h2))
  have hwn : IntKind.u64.wrap (n : Int) = (n : Int) := by rw [IntKind.wrap_u64]; omega
  have h0n : (0 : Int) ≤ (n : Int) := by omega
  clear hM hM2 hR hA hd
  go_enter Tryz.func156, Tryz.ntmps156
  go_wp2_with fail
  refine (HLEN.out _).mono ?_
  rintro e w' ⟨rfl, rfl⟩
  go_wp2_with fail
  refine HPD.out.mono ?_
  rintro e w2 ⟨rfl, d', p1, s1, r1, t1⟩
  go_wp2_with fail
  go_end0
  exact ⟨rfl, by rw [← HU.out d' p1 s1]; exact r1, t1⟩
end Go.Proofs.YtmeejnkpaiinaacGreatDoor
