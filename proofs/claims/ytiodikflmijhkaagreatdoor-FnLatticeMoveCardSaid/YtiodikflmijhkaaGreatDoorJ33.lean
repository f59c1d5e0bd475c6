/- Joined texts: C221. -/
import Derived.Test.YtiodikflmijhkaaGreatDoorJ32
namespace Go.Proofs.YtiodikflmijhkaaGreatDoor
open Go.RowKit
set_option linter.unusedVariables false
attribute [local irreducible] cN syn

theorem pick_afterI (g q b c : Nat) (w W : World) (G0 : w.grownBy W (some g)) (xs : List Int) (B : Nat) (hg : g < B) (ho : OwnI W B (.slice (some ⟨b, 0, none⟩) xs.length c) xs) (hr : Rd W g q) (m : Nat) (hm : m < xs.length) (yn : Int) (hy : xs.getD m 0 = yn) (h0 : 0 ≤ yn) (h1 : yn ≤ 23) (hq : q ≤ 1048576) :
    Calls Tryz.prog 26 #[.pointer (some ⟨g, 0, none⟩), .int .i64 3] W fun e w2 => ∃ z Y : Int, e = .returned (.int .i64 z) ∧ 0 ≤ z ∧ z < 3 ∧ (#[Value.int .i64 24, .int .i64 (-1), .int .i64 yn] : Array Value)[z.toNat]? = some (.int .i64 Y) ∧ (∀ h : z.toNat < [Value.int .i64 24, .int .i64 (-1), .int .i64 yn].length, [Value.int .i64 24, .int .i64 (-1), .int .i64 yn][z.toNat]'h = .int .i64 Y) ∧ -1 ≤ Y ∧ Y ≤ 24 ∧
      w2.cell? ⟨b, m, none⟩ = some (.int .i64 yn) ∧ w2.cell? ⟨b, 0, none⟩ = some (.int .i64 (xs.getD 0 0)) ∧ w2.frozen? ⟨b, 0, none⟩ = false ∧ b < w2.heap.size ∧ Hid (OwnI w2 B (.slice (some ⟨b, 0, none⟩) xs.length c) xs) ∧ Hid (Rd w2 g (q + 1)) ∧ Hid (W.grownBy w2 (some g)) ∧ Hid (w.grownBy w2 (some g)) := by
  refine (pick_calls g q 3 W hr hq (by omega) (by omega)).mono ?_
  rintro e w2 ⟨z, rfl, za, zb, r2, g2⟩
  obtain ⟨Y, hY, hY', Y0, Y1⟩ := pick3 yn z h0 h1 za zb
  have o2 := ho.grownG g2 hg
  have cn := o2.cell (j := m) hm
  rw [hy] at cn
  exact ⟨z, Y, rfl, za, zb, hY, hY', Y0, Y1, cn, o2.cell (by omega), o2.free 0, ownI_lt o2, o2, r2, g2, grown_trans G0 g2⟩

def PlacesDrawnI (g q : Nat) (n : Int) (w : World) (e : Ending) (w' : World) : Prop := ∃ (v : Value) (xs : List Int) (q' : Nat), e = .returned v ∧ OwnI w' w.heap.size v xs ∧ (xs.length : Int) = n ∧
      (∀ x ∈ xs, -1 ≤ x ∧ x ≤ 24) ∧ q' ≤ q + 30 ∧ Rd w' g q' ∧ w.grownBy w' (some g)

theorem drawn_endI {g q q2 b c : Nat} {n : Int} {w w2 : World} {xs : List Int} {Y : Int} (hg : g < w.heap.size) (hb : w.heap.size ≤ b) (o2 : OwnI w2 w.heap.size (.slice (some ⟨b, 0, none⟩) xs.length c) xs) (r2 : Rd w2 g q2) (hq : q2 ≤ q + 30)
    (G : w.grownBy w2 (some g)) (hn : (xs.length : Int) = n) (hx : ∀ x ∈ xs, 0 ≤ x ∧ x ≤ 23) (Y0 : -1 ≤ Y) (Y1 : Y ≤ 24) :
    PlacesDrawnI g q n w (.returned (.slice (some ⟨b, 0, none⟩) xs.length c)) (w2.setCell ⟨b, 0, none⟩ (.int .i64 Y)) := by
  refine ⟨_, xs.set 0 Y, q2, rfl, o2.set 0 Y, by rw [List.length_set]; exact hn, ?_, hq, r2.keep ((Below.refl _ _).setCell (p := ⟨b, 0, none⟩) (by show g + 1 ≤ b; omega) _), grown_then_below G ((Below.refl _ _).setCell (p := ⟨b, 0, none⟩) hb _)⟩
  intro x hm
  rcases List.mem_or_eq_of_mem_set hm with h | h
  · have := hx x h; omega
  · subst h; exact ⟨Y0, Y1⟩

theorem PlacesDrawnI.alloc {g q : Nat} {n : Int} {w w' : World} {e : Ending} (h : PlacesDrawnI g q n w e w') (o : Obj) : PlacesDrawnI g q n w e (w'.alloc o) := by
  obtain ⟨v, xs, q', h1, h2, h3, h4, h5, h6, h7⟩ := h
  exact ⟨v, xs, q', h1, h2.alloc o, h3, h4, h5, h6.below ((Below.refl _ _).alloc (Nat.le_refl _) _), grown_then_below h7 ((Below.refl _ _).alloc h7.size _)⟩

set_option maxHeartbeats 1000000 in
theorem l91Places_callsI (g q : Nat) (n : Int) (w : World) (h : Rd w g q) (hq : q ≤ 800000) (h0 : 0 ≤ n) (h1 : n ≤ 24) :
    Calls Tryz.prog 36 #[.pointer (some ⟨g, 0, none⟩), .int .i64 n] w (PlacesDrawnI g q n w) := by
  have hg := h.lt
  have HO := Lib.hid (ownI_empty w w.heap.size (Nat.le_refl _))
  have HR := Lib.hid (h.below ((Below.refl w.heap.size w).alloc (Nat.le_refl _) (.cells #[] 3)))
  have HG := Lib.hid (below_grown ((Below.refl w.heap.size w).alloc (Nat.le_refl _) (.cells #[] 3)) (some g))
  clear h
  go_enter Tryz.func36, Tryz.ntmps36
  go_wp2
  go_loopw [5, 6] (fun v t wr => ∃ (T : Int) (xs : List Int), (xs.length : Int) ≤ n ∧ t = .int .i64 T ∧ 0 ≤ T ∧ T ≤ 16777215 ∧ wt T = xs.length ∧ Hid (∀ x ∈ xs, 0 ≤ x ∧ x ≤ 23) ∧
      Hid (OwnI wr w.heap.size v xs) ∧ Hid (Rd wr g (q + xs.length)) ∧ Hid (w.grownBy wr (some g))) (fun _ t _ => 24 - (wt (intOf t)).toNat)
  case atStart => exact ⟨0, [], by simp; omega, rfl, by omega, by omega, by decide, Lib.hid (by simp), HO, HR, HG⟩
  case round =>
    obtain ⟨T, xs, hl, rfl, hT0, hT1, hwt, hxs, ho, hr, hgr⟩ := hrel
    by_cases hlt : (xs.length : Int) < n
    · clear HO HR HG
      obtain ⟨d, hd, hdb⟩ := free_place T (by omega)
      have HD := Lib.hid hdb
      have HWT := Lib.hid hwt
      clear hdb hwt
      obtain ⟨A, c, rfl⟩ := ho.out.slice
      go_wp2_with fail
      refine (pick_calls g _ 24 _ hr.out (by omega) (by omega) (by omega)).mono ?_
      rintro e w1 ⟨p0, rfl, p0a, p0b, r1, g1⟩
      have ho1 := Lib.hid (ho.out.grownG g1 hg)
      have hr1 := Lib.hid r1
      have hgr1 := Lib.hid (grown_trans hgr.out g1)
      clear ho hr hgr r1 g1
      go_wp2_with fail
      go_loop [7] (fun u => ∃ p : Int, u = .int .i64 p ∧ 0 ≤ p ∧ p ≤ 23) (fun u => (((d : Int) + 24 - intOf u).toNat) % 24)
      case atStart => exact ⟨p0, rfl, p0a, by omega⟩
      case round =>
        obtain ⟨p, rfl, pa, pb⟩ := hrel
        clear p0a p0b
        have hsz : w.heap.size ≤ w1.heap.size := hgr1.out.size
        rcases bitI_01 T p with hb | hb
        · have hr := addPl_range T p hT0 hT1 pa pb hb
          have hq := pow_val p pa pb
          have HW := Lib.hid (wrap_pow T p hr.1 hr.2 hq.1 hq.2)
          have hbb : (bitI T p == 1) = false := by rw [hb]; rfl
          have HT := Lib.hid (wt_addp T p hT0 pa pb hb)
          clear hb hq
          go_wp2_with (first
            | (go_at_call 45; refine (l1Bit_calls _ _ _ (by omega) (by omega)).mono ?_; rintro e w' ⟨rfl, rfl⟩)
            | (at_builtin; refine wpList_pushI rfl _ _ rfl w1 w.heap.size _ _ _ _ rfl rfl (by exact ho1.out) (by omega) hsz ?_; intro v2 w2 ho2 hb2 _))
          have hl2 : ((xs ++ [p]).length : Int) = (xs.length : Int) + 1 := by simp
          have HR2 := Lib.hid (hr1.out.keep (hb2.mono (by omega)))
          have HG2 := Lib.hid (grown_then_below hgr1.out hb2)
          have HX2 : Hid (∀ x ∈ xs ++ [p], 0 ≤ x ∧ x ≤ 23) := by
            intro x hx
            rcases List.mem_append.1 hx with h | h
            · exact hxs.out x h
            · simp at h; subst h; exact ⟨pa, pb⟩
          go_roundw
          case rel => exact ⟨T + powI p, xs ++ [p], by omega, by rw [HW.out], hr.1, hr.2, by rw [HT.out, HWT.out, hl2], HX2, Lib.hid ho2, by rw [List.length_append, List.length_singleton]; exact HR2, HG2⟩
          case measure => simp only [intOf]; rw [HW.out, HT.out, HWT.out]; omega
        · have hbb : (bitI T p == 1) = true := by rw [hb]; rfl
          have HM := Lib.hid (free_step T p d hd HD.out hb pa pb)
          clear hb
          go_wp2_with (go_at_call 45; refine (l1Bit_calls _ _ _ (by omega) (by omega)).mono ?_; rintro e w' ⟨rfl, rfl⟩)
          go_round
          case rel => exact ⟨(p + 1) % 24, rfl, by omega, by omega⟩
          case measure => simp only [intOf]; exact HM.out
    · have hl' : (xs.length : Int) = n := by omega
      have hle : xs.length ≤ 24 := by omega
      clear HO HR HG
      obtain ⟨A, c, rfl⟩ := ho.out.slice
      by_cases hz : n = 0
      · subst hz
        go_wp2
        go_ret
        exact ⟨_, xs, _, rfl, ho.out, hl', fun x hx => by have := hxs.out x hx; omega, by omega, hr.out, hgr.out⟩
      · have hn0 : 0 < n := by omega
        go_wp2_with fail
        refine (pick_calls g _ 20 _ hr.out (by omega) (by omega) (by omega)).mono ?_
        rintro e w1 ⟨z, rfl, za, zb, r1, g1⟩
        have ho1 := Lib.hid (ho.out.grownG g1 hg)
        have hr1 := Lib.hid r1
        have hgr1 := Lib.hid (grown_trans hgr.out g1)
        clear ho hr hgr r1 g1
        by_cases hz0 : z = 0
        · subst hz0
          obtain ⟨b, rfl, hb1, hb2⟩ := ownI_at ho1.out (by omega)
          go_wp2_with fail
          obtain ⟨m, rfl⟩ : ∃ m : Nat, n = (m : Int) + 1 := ⟨n.toNat - 1, by omega⟩
          have c0 := ho1.out.cell (j := 0) (by omega)
          have cn := ho1.out.cell (j := m) (by omega)
          have f0 := ho1.out.free 0
          have i1 : (m : Int) < xs.length := by omega
          have hyn : 0 ≤ xs.getD m 0 ∧ xs.getD m 0 ≤ 23 := by
            rw [List.getD_eq_getElem?_getD, List.getElem?_eq_getElem (by omega)]
            exact hxs.out _ (List.getElem_mem _)
          obtain ⟨yn0, yn1⟩ := hyn
          generalize hy : xs.getD m 0 = yn at *
          have HY := Lib.hid hy
          clear hl' hy
          have hwr : IntKind.i64.wrap (m : Int) = m := by rw [IntKind.wrap_i64]; omega
          have ra := Lib.hid (hr1.out.below ((Below.refl w1.heap.size w1).alloc (Nat.le_refl _) (.cells #[.int .i64 24, .int .i64 (-1), .int .i64 yn] 3)))
          have oa := Lib.hid (ho1.out.alloc (.cells #[.int .i64 24, .int .i64 (-1), .int .i64 yn] 3))
          have hsz : g < w1.heap.size := hr1.out.lt
          have ga := Lib.hid (grown_drew (grown_then_below hgr1.out ((Below.refl _ _).alloc hgr1.out.size (.cells #[.int .i64 24, .int .i64 (-1), .int .i64 yn] 3))))
          have gb := Lib.hid (grown_drew hgr1.out)
          go_region_with (go_at_call 26; first
            | (refine (pick_afterI g (q + xs.length + 1) b c w (World.drew (w1.alloc _)) ga.out xs w.heap.size hg oa.out ra.out m (by omega) yn HY.out yn0 yn1 (by omega)).mono ?_; rintro e w2 ⟨z, Y, rfl, za, zb, hY, hY', Y0, Y1, cn2, c02, f2, lb2, o2, r2, g2, G2⟩; have cY := built_cell g2.out hY (by omega))
            | (refine (pick_afterI g (q + xs.length + 1) b c w (World.drew w1) gb.out xs w.heap.size hg ho1.out hr1.out m (by omega) yn HY.out yn0 yn1 (by omega)).mono ?_; rintro e w2 ⟨z, Y, rfl, za, zb, hY, hY', Y0, Y1, cn2, c02, f2, lb2, o2, r2, g2, G2⟩))
          all_goals go_wp2
          all_goals go_ret
          all_goals
            have hlen : (xs.length : Int) = (m : Int) + 1 := by omega
            first
            | exact drawn_endI (w2 := w2) hg hb1 o2.out r2.out (by omega) G2.out hlen hxs.out Y0 Y1
            | exact (drawn_endI (w2 := w2) hg hb1 o2.out r2.out (by omega) G2.out hlen hxs.out Y0 Y1).alloc _
        · have ez : (z == 0) = false := by simpa using hz0
          go_wp2
          go_ret
          exact ⟨_, xs, _, rfl, ho1.out, hl', fun x hx => by have := hxs.out x hx; omega, by omega, hr1.out, hgr1.out⟩

def GotLI (w : World) (xs : List Int) (b : Bool) (e : Ending) (w' : World) : Prop := ∃ v, e = .returned (.tuple #[v, .bool b]) ∧ OwnI w' w.heap.size v xs ∧ Below w.heap.size w w'

set_option maxRecDepth 100000 in
set_option maxHeartbeats 2000000 in
theorem sPermHex_callsI (A : Option Addr) (c : Nat) (xs : List Int) (w : World) (ha : Rds w w.heap.size .i64 A xs) (hx : xs.length ≤ maxLen) :
    Calls Tryz.prog 33 #[.slice A xs.length c] w (GotLI w (plHex xs).1 (plHex xs).2) := by
  have HE := Lib.hid (ownI_empty2 w w.heap.size (Nat.le_refl _))
  have HB0 := Lib.hid ((Below.refl w.heap.size w).alloc (Nat.le_refl _) (.cells #[] 3))
  have HA := Lib.hid (fun (W : World) (h : Below w.heap.size w W) => sHexIn_calls A c xs W ((ha.below h).more h.size) hx)
  rcases hb : hIn xs with _ | _
  · rw [show plHex xs = ([], false) by simp [plHex, hb]]
    simp only [hb] at HA
    clear ha hx hb
    generalize xs.length = n at *
    go_enter Tryz.func33, Tryz.ntmps33
    go_wp2_with fail
    refine (HA.out _ HB0.out).mono ?_
    rintro e w' ⟨rfl, b1⟩
    have HE1 := Lib.hid (HE.out.below b1)
    have HB1 := Lib.hid (HB0.out.trans (b1.mono HB0.out.size))
    clear b1
    go_wp2_with fail
    go_ret2
    exact ⟨_, rfl, HE1.out, HB1.out⟩
  · rw [show plHex xs = (hexP xs, true) by simp [plHex, hb]]
    have hrow : IsRow6 xs := by
      simp only [hIn, Bool.and_eq_true] at hb
      exact (rowB_iff xs).1 hb.1
    simp only [hb] at HA
    have HL := Lib.hid hrow.1
    have HG := Lib.hid (fun k => hrow.get k)
    have HAT := Lib.hid (fun k hk => hexP_at xs k hk)
    have hzl := hexP_len xs
    have HLX := Lib.hid hzl
    have HST := Lib.hid (fun k (hk : k < 24) => show (hexP xs).take k ++ [(hexP xs).getD k 0] = (hexP xs).take (k + 1) from (take_succ_getD (hexP xs) k (by omega)).symm)
    generalize hexP xs = zs at *
    clear hzl hb hx hrow
    go_enter Tryz.func33, Tryz.ntmps33
    go_wp2_with fail
    refine (HA.out _ HB0.out).mono ?_
    rintro e w' ⟨rfl, b1⟩
    have HE1 := Lib.hid (HE.out.below b1)
    have HB1 := Lib.hid (HB0.out.trans (b1.mono HB0.out.size))
    clear b1
    go_wp2_with fail
    go_loopw [4, 5] (fun v i wr => ∃ k : Nat, k ≤ 24 ∧ i = .int .i64 k ∧ Hid (OwnI wr w.heap.size v (zs.take k)) ∧ Hid (Below w.heap.size w wr)) (fun _ i _ => 24 - (intOf i).toNat)
    case atStart => exact ⟨0, by omega, rfl, HE1, HB1⟩
    case round =>
      obtain ⟨k, hk, rfl, ho, hbw⟩ := hrel
      clear HE HE1 HA HB0 HB1
      by_cases hlt : k < 24
      · have hk1 : (0 : Int) ≤ (k : Int) := by omega
        have hk2 : (k : Int) < 24 := by omega
        obtain ⟨B1, o1, rfl, hB1, c1⟩ := (ha.below hbw.out).at_ (j := k / 4) (by have := HL.out; omega)
        have HS := Lib.hid (HST.out k hlt)
        have hat := HAT.out k hlt
        have hg := HG.out (k / 4)
        have hlen : (zs.take k).length ≤ 24 := by rw [List.length_take]; omega
        have kl : ((k / 4 : Nat) : Int) < xs.length := by have := HL.out; omega
        generalize xs.getD (k / 4) 0 = d at *
        obtain ⟨d0, d1⟩ := hg
        have hq : wrap64 ((k : Int).tdiv 4) = ((k / 4 : Nat) : Int) := by
          rw [show (k : Int).tdiv 4 = ((k / 4 : Nat) : Int) by rw [Int.tdiv_eq_ediv_of_nonneg hk1]; omega]
          exact IntWalk.wrap64_in _ (by omega)
        have hxy : bits .xor .i64 ((k : Int) % 4) d = xorI ((k % 4 : Nat) : Int) d := by
          rw [show (k : Int) % 4 = ((k % 4 : Nat) : Int) by omega]
          exact xor_i64 _ _ (by omega) (by omega) d0 (by omega)
        have hx3 := xorI_lt4 ((k % 4 : Nat) : Int) d (by omega) d1
        have hx0 := xorI_nonneg ((k % 4 : Nat) : Int) d
        generalize zs.getD k 0 = y at *
        have HV := Lib.hid (show wrap64 ((k : Int) / 4 * 4 + bits .xor .i64 ((k : Int) % 4) d) = y by
          rw [hxy, hat, show ((k / 4 * 4 : Nat) : Int) = (k : Int) / 4 * 4 by omega]
          exact IntWalk.wrap64_in _ (by omega))
        have hsz := hbw.out.size
        clear hxy hat hx3 hx0 hq
        go_wp2_with (at_builtin; refine wpList_pushI rfl _ _ rfl wr w.heap.size _ _ _ _ rfl rfl (by exact ho.out) (by omega) hsz ?_; intro v2 w2 ho2 hb2 hg2; rw [HV.out] at ho2)
        rw [HS.out] at ho2
        go_roundw
        case rel => exact ⟨k + 1, by omega, by go_num, Lib.hid ho2, Lib.hid (hbw.out.trans hb2)⟩
        case measure => simp [intOf]; omega
      · obtain rfl : k = 24 := by omega
        have ho2 := ho.out
        rw [List.take_of_length_le (by rw [HLX.out]; omega)] at ho2
        have HO := Lib.hid ho2
        clear ho2 ho
        go_wp2
        go_ret2
        exact ⟨_, rfl, HO.out, hbw.out⟩

set_option maxRecDepth 100000 in
set_option maxHeartbeats 2000000 in
theorem sPermScale_callsI (n : Int) (w : World) :
    Calls Tryz.prog 32 #[.int .i64 n] w (GotLI w (plScale n).1 (plScale n).2) := by
  have HE := Lib.hid (ownI_empty2 w w.heap.size (Nat.le_refl _))
  have HB0 := Lib.hid ((Below.refl w.heap.size w).alloc (Nat.le_refl _) (.cells #[] 3))
  by_cases hn : 1 ≤ n ∧ n ≤ 3
  · rw [show plScale n = (scP n, true) by simp [plScale, hn]]
    have HD : Hid (IsD n) := Lib.hid ⟨by omega, by omega⟩
    have HAT := Lib.hid (fun k hk => scP_at n k hk)
    have hzl := scP_len n
    have HLX := Lib.hid hzl
    have HST := Lib.hid (fun k (hk : k < 24) => show (scP n).take k ++ [(scP n).getD k 0] = (scP n).take (k + 1) from (take_succ_getD (scP n) k (by omega)).symm)
    generalize scP n = zs at *
    clear hzl
    go_enter Tryz.func32, Tryz.ntmps32
    go_wp2_with (go_at_call 44; refine (l6In_ok _ _ _ _ hn.1 hn.2).mono ?_; rintro e w' ⟨rfl, rfl⟩)
    go_loopw [4, 5] (fun v i wr => ∃ k : Nat, k ≤ 24 ∧ i = .int .i64 k ∧ Hid (OwnI wr w.heap.size v (zs.take k)) ∧ Hid (Below w.heap.size w wr)) (fun _ i _ => 24 - (intOf i).toNat)
    case atStart => exact ⟨0, by omega, rfl, HE, HB0⟩
    case round =>
      obtain ⟨k, hk, rfl, ho, hbw⟩ := hrel
      clear HE HB0
      by_cases hlt : k < 24
      · have hk1 : (0 : Int) ≤ (k : Int) := by omega
        have hk2 : (k : Int) < 24 := by omega
        have HS := Lib.hid (HST.out k hlt)
        have hat := HAT.out k hlt
        have hlen : (zs.take k).length ≤ 24 := by rw [List.length_take]; omega
        have HK : Hid (IsD ((k : Int) % 4)) := Lib.hid ⟨by omega, by omega⟩
        have hm := mulD_d HK.out HD.out
        rw [show ((k % 4 : Nat) : Int) = (k : Int) % 4 by omega] at hat
        generalize zs.getD k 0 = y at *
        obtain ⟨m, hme⟩ : ∃ m, mulD ((k : Int) % 4) n = m := ⟨_, rfl⟩
        rw [hme] at hm hat
        obtain ⟨m0, m1⟩ := hm
        have HME := Lib.hid hme
        have HV := Lib.hid (show (k : Int) / 4 * 4 + m = y by omega)
        have hsz := hbw.out.size
        clear hat hme
        go_wp2_with (first
          | (go_at_call 64; refine (l2Times_d _ _ _ HK.out HD.out).mono ?_; rintro e w' ⟨he, rfl⟩; rw [HME.out] at he; subst he)
          | (at_builtin; refine wpList_pushI rfl _ _ rfl wr w.heap.size _ _ _ _ rfl rfl (by exact ho.out) (by omega) hsz ?_; intro v2 w2 ho2 hb2 hg2; rw [HV.out] at ho2))
        rw [HS.out] at ho2
        go_roundw
        case rel => exact ⟨k + 1, by omega, by go_num, Lib.hid ho2, Lib.hid (hbw.out.trans hb2)⟩
        case measure => simp [intOf]; omega
      · obtain rfl : k = 24 := by omega
        have ho2 := ho.out
        rw [List.take_of_length_le (by rw [HLX.out]; omega)] at ho2
        have HO := Lib.hid ho2
        clear ho2 ho
        go_wp2
        go_ret2
        exact ⟨_, rfl, HO.out, hbw.out⟩
  · rw [show plScale n = ([], false) by simp [plScale, hn]]
    go_enter Tryz.func32, Tryz.ntmps32
    go_wp2_with (go_at_call 44; refine (l6In_no _ _ _ _ (by omega)).mono ?_; rintro e w' ⟨rfl, rfl⟩)
    go_ret2
    exact ⟨_, rfl, HE.out, HB0.out⟩

set_option maxHeartbeats 2000000 in
theorem LinePerm_anyI (a b c d : Int) (w : World) (a0 : 0 ≤ a) (a1 : a ≤ 22) (b0 : 0 ≤ b) (b1 : b ≤ 22) (c0 : 0 ≤ c) (c1 : c ≤ 22) (d0 : 0 ≤ d) (d1 : d ≤ 22) :
    Calls Tryz.prog 35 #[.int .i64 a, .int .i64 b, .int .i64 c, .int .i64 d] w fun e w' => ∃ v xs t, e = .returned (.tuple #[v, .bool t]) ∧ OwnI w' w.heap.size v xs ∧ xs.length ≤ 24 ∧ Below w.heap.size w w' := by
  have HE := Lib.hid (ownI_empty2 w w.heap.size (Nat.le_refl _))
  have HB0 := Lib.hid ((Below.refl w.heap.size w).alloc (Nat.le_refl _) (.cells #[] 3))
  go_enter Tryz.func35, Tryz.ntmps35
  go_wp2_with fail
  refine (l8Given_any a b c d _ a0 a1 b0 b1 c0 c1 d0 d1).mono ?_
  rintro e w' ⟨t, rfl, rfl⟩
  cases t
  · go_wp2_with fail
    go_ret2
    exact ⟨_, [], _, rfl, HE.out, by simp, HB0.out⟩
  · go_wp2_with fail
    go_loopw [10, 11] (fun v i wr => ∃ (k : Nat) (xs : List Int), k ≤ 24 ∧ i = .int .i64 k ∧ xs.length = k ∧ Hid (OwnI wr w.heap.size v xs) ∧ Hid (Below w.heap.size w wr)) (fun _ i _ => 24 - (intOf i).toNat)
    case atStart => exact ⟨0, [], by omega, rfl, rfl, HE, HB0⟩
    case round =>
      obtain ⟨k, xs, hk, rfl, hl, ho, hbw⟩ := hrel
      have HL := Lib.hid hl
      clear hl HE HB0
      have hsz := hbw.out.size
      by_cases hlt : k < 24
      · have hk1 : (k : Int) ≤ 23 := by omega
        go_wp2_with (first
          | (go_at_call 67; refine (l8Move_any _ _ _ _ _ _).mono ?_; rintro e w' ⟨m, rfl, rfl⟩)
          | (at_builtin; refine wpList_pushI rfl _ _ rfl wr w.heap.size _ _ _ _ rfl rfl (by exact ho.out) (by rw [HL.out]; omega) hsz ?_; intro v2 w2 ho2 hb2 hg2))
        go_roundw
        case rel => exact ⟨k + 1, xs ++ [m], by omega, by go_num, by rw [List.length_append, HL.out]; rfl, Lib.hid ho2, Lib.hid (hbw.out.trans hb2)⟩
        case measure => simp [intOf]; omega
      · obtain rfl : k = 24 := by omega
        go_wp2_with fail
        go_ret2
        exact ⟨_, xs, _, rfl, ho.out, by rw [HL.out]; exact Nat.le_refl _, hbw.out⟩

def PermDrawnI (g q : Nat) (w : World) (e : Ending) (w' : World) : Prop := ∃ (v : Value) (xs : List Int) (q' : Nat), e = .returned v ∧ OwnI w' w.heap.size v xs ∧ xs.length ≤ 24 ∧ q' ≤ q + 60 ∧ Rd w' g q' ∧ w.grownBy w' (some g)

set_option maxRecDepth 100000 in
set_option maxHeartbeats 4000000 in
theorem l92Perm_callsI (g q : Nat) (w : World) (h : Rd w g q) (hq : q ≤ 700000) :
    Calls Tryz.prog 14 #[.pointer (some ⟨g, 0, none⟩)] w (PermDrawnI g q w) := by
  have hg := h.lt
  have HE := Lib.hid (ownI_empty2 w w.heap.size (Nat.le_refl _))
  have HB0 := Lib.hid ((Below.refl w.heap.size w).alloc (Nat.le_refl _) (.cells #[] 3))
  have HR0 := Lib.hid (rd_below h HB0.out)
  have HG0 := Lib.hid (below_grown HB0.out (some g))
  clear h
  go_enter Tryz.func14, Tryz.ntmps14
  go_wp2_with fail
  refine (pick_calls g q 5 _ HR0.out (by omega) (by omega) (by omega)).mono ?_
  rintro e w1 ⟨z, rfl, z0, z1, r1, g1⟩
  have HE1 := Lib.hid (HE.out.grownG g1 hg)
  have HR1 := Lib.hid r1
  have HG1 := Lib.hid (grown_trans HG0.out g1)
  clear r1 g1 HE HB0 HR0 HG0
  by_cases h0 : z = 0
  · subst h0
    clear HE1
    go_wp2_with fail
    refine (pick_calls g _ 3 _ HR1.out (by omega) (by omega) (by omega)).mono ?_
    rintro e w2 ⟨m, rfl, m0, m1, rr, gg⟩
    have HR2 := Lib.hid rr
    have HG2 := Lib.hid (grown_trans HG1.out gg)
    clear rr gg
    go_wp2_with fail
    refine (sPermScale_callsI (1 + m) _).mono ?_
    rintro e w3 ⟨v, he, o3, b3⟩
    have hs : plScale (1 + m) = (scP (1 + m), true) := by
      have : 1 ≤ 1 + m ∧ 1 + m ≤ 3 := ⟨by omega, by omega⟩
      simp [plScale, this]
    rw [hs] at he o3
    subst he
    have HO3 := Lib.hid (o3.weak HG2.out.size)
    have HR3 := Lib.hid (rd_below HR2.out b3)
    have HG3 := Lib.hid (grown_then_below HG2.out (b3.mono HG2.out.size))
    have hl3 := scP_len (1 + m)
    clear b3 o3 hs
    go_wp2_with fail
    go_ret
    exact ⟨_, _, _, rfl, HO3.out, by omega, by omega, HR3.out, HG3.out⟩
  have e0 : (z == 0) = false := by simpa using h0
  by_cases h1 : z = 1
  · subst h1
    clear HE1 h0
    go_wp2_with fail
    refine (pick_calls g _ 4 _ HR1.out (by omega) (by omega) (by omega)).mono ?_
    rintro e w2 ⟨m, rfl, m0, m1, rr, gg⟩
    have HR2 := Lib.hid rr
    have HG2 := Lib.hid (grown_trans HG1.out gg)
    clear rr gg
    go_wp2_with fail
    refine (pick_calls g _ 4 _ HR2.out (by omega) (by omega) (by omega)).mono ?_
    rintro e w3 ⟨m2, rfl, m20, m21, rr, gg⟩
    have HR3 := Lib.hid rr
    have HG3 := Lib.hid (grown_trans HG2.out gg)
    clear rr gg
    go_wp2_with fail
    refine (pick_calls g _ 4 _ HR3.out (by omega) (by omega) (by omega)).mono ?_
    rintro e w4 ⟨m3, rfl, m30, m31, rr, gg⟩
    have HR4 := Lib.hid rr
    have HG4 := Lib.hid (grown_trans HG3.out gg)
    clear rr gg
    go_wp2_with fail
    refine (l2Of_calls m m2 m3 _ m0 (by omega) m20 (by omega) m30 (by omega)).mono ?_
    rintro e w5 ⟨v, rfl, o5, b5⟩
    obtain ⟨A5, c5, rfl⟩ := o5.slice
    have HR5 := Lib.hid (rd_below HR4.out b5)
    have HG5 := Lib.hid (grown_then_below HG4.out (b5.mono HG4.out.size))
    have HO5 := Lib.hid o5
    clear b5 o5
    go_wp2_with fail
    refine (sPermHex_callsI A5 c5 _ _ HO5.out.rds HO5.out.len_le).mono ?_
    rintro e w6 ⟨v6, he, o6, b6⟩
    obtain ⟨xs6, hxs6⟩ : ∃ xs, (plHex (hexRow m m2 m3)).1 = xs := ⟨_, rfl⟩
    have hl6 : (plHex (hexRow m m2 m3)).1.length ≤ 24 := by
      unfold plHex
      split
      · rw [hexP_len]; exact Nat.le_refl _
      · simp
    rw [hxs6] at hl6 o6
    have HO6 := Lib.hid (o6.weak HG5.out.size)
    have HR6 := Lib.hid (rd_below HR5.out b6)
    have HG6 := Lib.hid (grown_then_below HG5.out (b6.mono HG5.out.size))
    generalize (plHex (hexRow m m2 m3)).2 = b at *
    subst he
    clear b6 o6 hxs6
    cases b
    · clear HO6
      go_wp2_with fail
      refine (l91Places_callsI g _ 24 _ HR6.out (by omega) (by omega) (by omega)).mono ?_
      rintro e wN ⟨vN, xsN, qN, rfl, oN, hlN, _, hqN, rN, gN⟩
      go_wp2_with fail
      go_ret
      exact ⟨vN, xsN, qN, rfl, oN.weak (HG6.out).size, by omega, by omega, rN, grown_trans HG6.out gN⟩
    · go_wp2_with fail
      go_ret
      exact ⟨_, _, _, rfl, HO6.out, hl6, by omega, HR6.out, HG6.out⟩
  have e1 : (z == 1) = false := by simpa using h1
  by_cases h2 : z = 2
  · subst h2
    clear HE1 h0 h1
    go_wp2_with fail
    refine (pick_calls g _ 23 _ HR1.out (by omega) (by omega) (by omega)).mono ?_
    rintro e w2 ⟨m, rfl, m0, m1, rr, gg⟩
    have HR2 := Lib.hid rr
    have HG2 := Lib.hid (grown_trans HG1.out gg)
    clear rr gg
    go_wp2_with fail
    refine (pick_calls g _ 23 _ HR2.out (by omega) (by omega) (by omega)).mono ?_
    rintro e w3 ⟨m2, rfl, m20, m21, rr, gg⟩
    have HR3 := Lib.hid rr
    have HG3 := Lib.hid (grown_trans HG2.out gg)
    clear rr gg
    go_wp2_with fail
    refine (pick_calls g _ 23 _ HR3.out (by omega) (by omega) (by omega)).mono ?_
    rintro e w4 ⟨m3, rfl, m30, m31, rr, gg⟩
    have HR4 := Lib.hid rr
    have HG4 := Lib.hid (grown_trans HG3.out gg)
    clear rr gg
    go_wp2_with fail
    refine (pick_calls g _ 23 _ HR4.out (by omega) (by omega) (by omega)).mono ?_
    rintro e w5 ⟨m4, rfl, m40, m41, rr, gg⟩
    have HR5 := Lib.hid rr
    have HG5 := Lib.hid (grown_trans HG4.out gg)
    clear rr gg
    go_wp2_with fail
    refine (LinePerm_anyI m m2 m3 m4 _ m0 (by omega) m20 (by omega) m30 (by omega) m40 (by omega)).mono ?_
    rintro e w6 ⟨v6, xs6, b, rfl, o6, hl6, b6⟩
    have HO6 := Lib.hid (o6.weak HG5.out.size)
    have HR6 := Lib.hid (rd_below HR5.out b6)
    have HG6 := Lib.hid (grown_then_below HG5.out (b6.mono HG5.out.size))
    clear b6 o6
    cases b
    · clear HO6
      go_wp2_with fail
      refine (l91Places_callsI g _ 24 _ HR6.out (by omega) (by omega) (by omega)).mono ?_
      rintro e wN ⟨vN, xsN, qN, rfl, oN, hlN, _, hqN, rN, gN⟩
      go_wp2_with fail
      go_ret
      exact ⟨vN, xsN, qN, rfl, oN.weak (HG6.out).size, by omega, by omega, rN, grown_trans HG6.out gN⟩
    · go_wp2_with fail
      go_ret
      exact ⟨_, _, _, rfl, HO6.out, hl6, by omega, HR6.out, HG6.out⟩
  · have e2 : (z == 2) = false := by simpa using h2
    go_wp2_with fail
    refine (l91Places_callsI g _ 24 _ HR1.out (by omega) (by omega) (by omega)).mono ?_
    rintro e wN ⟨vN, xsN, qN, rfl, oN, hlN, _, hqN, rN, gN⟩
    go_wp2_with fail
    go_ret
    exact ⟨vN, xsN, qN, rfl, oN.weak (HG1.out).size, by omega, by omega, rN, grown_trans HG1.out gN⟩

def VStI (w : World) (g q : Nat) (out : List Int) (W : World) : Prop :=
  out.length = 24 ∧ OwnI W w.heap.size (.slice (some ⟨w.heap.size, 0, none⟩) 24 24) out ∧ (∃ q', q' ≤ q ∧ Rd W g q') ∧ w.grownBy W (some g)

theorem VStI.grown {w W W2 : World} {g q q2 qn : Nat} {out : List Int} (h : VStI w g q out W) (hg : g < w.heap.size) (hr : Rd W2 g q2) (hq : q2 ≤ qn) (hG : W.grownBy W2 (some g)) : VStI w g qn out W2 :=
  ⟨h.1, h.2.1.grownG hG hg, ⟨q2, hq, hr⟩, grown_trans h.2.2.2 hG⟩

theorem VStI.below {w W W2 : World} {g q : Nat} {out : List Int} (h : VStI w g q out W) (hb : Below W.heap.size W W2) : VStI w g q out W2 := by
  obtain ⟨h1, h2, ⟨q', hq, hr⟩, h4⟩ := h
  exact ⟨h1, h2.below hb, ⟨q', hq, hr.below hb⟩, grown_trans h4 (below_grown hb (some g))⟩

theorem VStI.set {w W : World} {g q : Nat} {out : List Int} (h : VStI w g q out W) (hg : g < w.heap.size) (k : Nat) (x : Int) : VStI w g q (out.set k x) (W.setCell ⟨w.heap.size, k, none⟩ (.int .i64 x)) := by
  obtain ⟨h1, h2, ⟨q', hq, hr⟩, h4⟩ := h
  have hb : Below w.heap.size W (W.setCell ⟨w.heap.size, k, none⟩ (.int .i64 x)) := (Below.refl _ W).setCell (p := ⟨w.heap.size, k, none⟩) (Nat.le_refl _) _
  exact ⟨by rw [List.length_set]; exact h1, h2.set k x, ⟨q', hq, hr.keep (hb.mono hg)⟩, grown_then_below h4 hb⟩

theorem VStI.drew {w W : World} {g q : Nat} {out : List Int} (h : VStI w g q out W) : VStI w g q out W.drew :=
  h.below ((Below.refl _ W).drew)

theorem VStI.more {w W : World} {g q q2 : Nat} {out : List Int} (h : VStI w g q out W) (hq : q ≤ q2) : VStI w g q2 out W := by
  obtain ⟨h1, h2, ⟨q', hq', hr⟩, h4⟩ := h
  exact ⟨h1, h2, ⟨q', by omega, hr⟩, h4⟩

set_option maxRecDepth 100000 in
set_option maxHeartbeats 4000000 in
theorem l92Vector_callsI (g q : Nat) (w : World) (h : Rd w g q) (hq : q ≤ 500000) :
    Calls Tryz.prog 13 #[.pointer (some ⟨g, 0, none⟩)] w fun e w' => ∃ (v : Value) (xs : List Int) (q' : Nat), e = .returned v ∧ OwnI w' w.heap.size v xs ∧ xs.length ≤ 24 ∧ q' ≤ q + 400 ∧ Rd w' g q' ∧ w.grownBy w' (some g) := by
  have hg := h.lt
  have HM := mk24L
  have b0 : Below w.heap.size w (w.alloc (.cells (VL z24) 3)) := (Below.refl w.heap.size w).alloc (Nat.le_refl _) _
  have HS0 := Lib.hid (show VStI w g q z24 (w.alloc (.cells (VL z24) 3)) from ⟨rfl, ownI_24L z24 rfl (heap_alloc_new w _) (Nat.le_refl _), ⟨q, Nat.le_refl _, h.below b0⟩, below_grown b0 _⟩)
  clear h b0
  go_enter Tryz.func13, Tryz.ntmps13
  go_wp2_with fail
  obtain ⟨q0, hq0, r0⟩ := HS0.out.2.2.1
  refine (pick_calls g q0 3 _ r0 (by omega) (by omega) (by omega)).mono ?_
  rintro e w1 ⟨n, rfl, n0, n1, r1, g1⟩
  have HS1 := Lib.hid (HS0.out.grown hg r1 (show q0 + 1 ≤ q + 1 by omega) g1)
  clear HS0 r0 r1 g1 hq0
  go_wp2_with fail
  obtain ⟨N, hN⟩ : ∃ N : Nat, 1 + n = (N : Int) := ⟨(1 + n).toNat, by omega⟩
  rw [hN]
  have hN3 : N ≤ 3 := by omega
  clear hN n0 n1
  go_loopw [5] (fun i wr => ∃ (k : Nat) (out : List Int), k ≤ N ∧ i = .int .i64 k ∧ Hid (VStI w g (q + 1 + 100 * k) out wr)) (fun i _ => N - (intOf i).toNat)
  case atStart => exact ⟨0, z24, by omega, rfl, HS1⟩
  case round =>
    obtain ⟨k, out, hk, rfl, hs⟩ := hrel
    obtain ⟨V4, hV4⟩ : ∃ V, V = wr := ⟨_, rfl⟩
    subst hV4
    clear HS1
    by_cases hlt : k < N
    · have hkN : (k : Int) < (N : Int) := by omega
      have bA : Below V4.heap.size V4 (V4.alloc (.cells #[] 3)) := (Below.refl _ _).alloc (Nat.le_refl _) _
      have HA := Lib.hid (hs.out.below bA)
      have hsz4 := hs.out.2.2.2.size
      have hsz5 : w.heap.size + 1 ≤ V4.heap.size := ownI_lt hs.out.2.1
      have HNX := Lib.hid (ownI_empty2 V4 (w.heap.size + 1) hsz5)
      clear bA hs
      go_wp2_with fail
      obtain ⟨q1, hq1, r1⟩ := HA.out.2.2.1
      refine (pick_calls g q1 4 _ r1 (by omega) (by omega) (by omega)).mono ?_
      rintro e w2 ⟨a, rfl, a0, a1, r2, g2⟩
      have HB := Lib.hid (HA.out.grown hg r2 (show q1 + 1 ≤ q + 2 + 100 * k by omega) g2)
      have HNB := Lib.hid (HNX.out.grownG g2 (show g < w.heap.size + 1 by omega))
      have hszB : w.heap.size + 1 ≤ w2.heap.size := ownI_lt HB.out.2.1
      clear HA HNX r1 r2 g2 hq1 hsz4 hsz5
      have ha : a = 0 ∨ a = 1 ∨ a = 2 ∨ a = 3 := by omega
      clear a0 a1
      rcases ha with rfl | rfl | rfl | rfl
      · go_wp2_with fail
        obtain ⟨q2, hq2, r2⟩ := HB.out.2.2.1
        refine (l91Octad_calls g q2 w2 r2 (by omega)).mono ?_
        rintro e w3 ⟨x, q3, rfl, x0, x1, hq3, r3, g3⟩
        have HB3 := Lib.hid (HB.out.grown hg r3 (show q3 ≤ q + 62 + 100 * k by omega) g3)
        clear r2 g3 r3 hq2 hq3
        go_wp2_with fail
        obtain ⟨q2, hq2, r2⟩ := HB3.out.2.2.1
        refine (pick_calls g q2 128 _ r2 (by omega) (by omega) (by omega)).mono ?_
        rintro e w4 ⟨y, rfl, y0, y1, r4, g4⟩
        have HD := Lib.hid (HB3.out.grown hg r4 (show q2 + 1 ≤ q + 63 + 100 * k by omega) g4)
        clear r2 r4 g4 HB3 hq2
        go_wp2_with fail
        refine (sLatticeOctad_calls x y w4).mono ?_
        rintro e w5 ⟨v, rfl, o5, b5⟩
        have HC := Lib.hid ((HD.out.below b5).more (show q + 63 + 100 * k ≤ q + 90 + 100 * k by omega))
        have hszD : w.heap.size + 1 ≤ w4.heap.size := ownI_lt HD.out.2.1
        have HN5 := Lib.hid (o5.weak hszD)
        have hok := (fun h => lvOct_24 (n := x) (s := y) h)
        generalize hA : lvOct x y = AN at *
        clear hA o5 b5 HD hszB hszD HNB HB
        obtain ⟨nl, ok⟩ := AN
        dsimp only at *
        cases ok
        · go_wp2_with fail
          go_loopw [8] (fun j wr => j = .int .i64 0 ∧ w5 = wr) (fun _ _ => 0)
          case atStart => exact ⟨rfl, rfl⟩
          case round =>
            obtain ⟨rfl, hw5⟩ := hrel
            subst hw5
            go_wp2_with fail
            go_roundw
            case rel => exact ⟨k + 1, out, by omega, by go_num, Lib.hid (HC.out.more (by omega))⟩
            case measure => simp [intOf]; omega
        · have HNL := Lib.hid (hok rfl)
          obtain ⟨A7, cn, rfl⟩ := HN5.out.slice
          rw [HNL.out] at HN5 ⊢
          obtain ⟨gn, rfl, hgn1, hgn2⟩ := own_at HN5.out (by decide)
          go_wp2_with fail
          go_loopw [8] (fun j wr => ∃ (p : Nat) (out2 : List Int), p ≤ 24 ∧ j = .int .i64 p ∧ Hid (VStI w g (q + 90 + 100 * k) out2 wr) ∧ Hid (Own wr (w.heap.size + 1) (.slice (some ⟨gn, 0, none⟩) 24 cn) nl)) (fun j _ => 24 - (intOf j).toNat)
          case atStart => exact ⟨0, out, by omega, rfl, HC, HN5⟩
          case round =>
            obtain ⟨p, out2, hp, rfl, hs2, hn2⟩ := hrel
            clear HC HN5
            by_cases hp2 : p < 24
            · have hp3 : (p : Int) < 24 := by omega
              have cx := hs2.out.2.1.cell (j := p) (by have := hs2.out.1; omega)
              have fx := hs2.out.2.1.free p
              have cy := hn2.out.cell (j := p) (by rw [HNL.out]; exact hp2)
              have HOF := Lib.hid (fun u => hn2.out.set_far (p := ⟨w.heap.size, p, none⟩) (by simp [Value.ownBlock]; omega) u)
              generalize out2.getD p 0 = x at *
              generalize nl.getD p 0 = y at *
              go_wp2_with fail
              go_region
              all_goals
                go_wp2_with fail
                go_roundw
                case rel => exact ⟨p + 1, _, by omega, by go_num, Lib.hid (by first | exact (hs2.out.set hg p _).drew | exact hs2.out.drew.set hg p _ | exact hs2.out.set hg p _), Lib.hid (by exact HOF.out _)⟩
                case measure => simp [intOf]; omega
            · obtain rfl : p = 24 := by omega
              go_wp2_with fail
              go_roundw
              case rel => exact ⟨k + 1, out2, by omega, by go_num, Lib.hid (hs2.out.more (by omega))⟩
              case measure => simp [intOf]; omega
      · go_wp2_with fail
        obtain ⟨q2, hq2, r2⟩ := HB.out.2.2.1
        refine (l91Code_calls g q2 w2 r2 (by omega)).mono ?_
        rintro e w3 ⟨x, rfl, x0, x1, r3, g3⟩
        have HB3 := Lib.hid (HB.out.grown hg r3 (show q2 + 2 ≤ q + 62 + 100 * k by omega) g3)
        clear r2 g3 r3 hq2
        go_wp2_with fail
        obtain ⟨q2, hq2, r2⟩ := HB3.out.2.2.1
        refine (pick_calls g q2 24 _ r2 (by omega) (by omega) (by omega)).mono ?_
        rintro e w4 ⟨y, rfl, y0, y1, r4, g4⟩
        have HD := Lib.hid (HB3.out.grown hg r4 (show q2 + 1 ≤ q + 63 + 100 * k by omega) g4)
        clear r2 r4 g4 HB3 hq2
        go_wp2_with fail
        refine (sLatticeThree_calls x y w4).mono ?_
        rintro e w5 ⟨v, rfl, o5, b5⟩
        have HC := Lib.hid ((HD.out.below b5).more (show q + 63 + 100 * k ≤ q + 90 + 100 * k by omega))
        have hszD : w.heap.size + 1 ≤ w4.heap.size := ownI_lt HD.out.2.1
        have HN5 := Lib.hid (o5.weak hszD)
        have hok := (fun h => lvThree_24 (n := x) (s := y) h)
        generalize hA : lvThree x y = AN at *
        clear hA o5 b5 HD hszB hszD HNB HB
        obtain ⟨nl, ok⟩ := AN
        dsimp only at *
        cases ok
        · go_wp2_with fail
          go_loopw [8] (fun j wr => j = .int .i64 0 ∧ w5 = wr) (fun _ _ => 0)
          case atStart => exact ⟨rfl, rfl⟩
          case round =>
            obtain ⟨rfl, hw5⟩ := hrel
            subst hw5
            go_wp2_with fail
            go_roundw
            case rel => exact ⟨k + 1, out, by omega, by go_num, Lib.hid (HC.out.more (by omega))⟩
            case measure => simp [intOf]; omega
        · have HNL := Lib.hid (hok rfl)
          obtain ⟨A7, cn, rfl⟩ := HN5.out.slice
          rw [HNL.out] at HN5 ⊢
          obtain ⟨gn, rfl, hgn1, hgn2⟩ := own_at HN5.out (by decide)
          go_wp2_with fail
          go_loopw [8] (fun j wr => ∃ (p : Nat) (out2 : List Int), p ≤ 24 ∧ j = .int .i64 p ∧ Hid (VStI w g (q + 90 + 100 * k) out2 wr) ∧ Hid (Own wr (w.heap.size + 1) (.slice (some ⟨gn, 0, none⟩) 24 cn) nl)) (fun j _ => 24 - (intOf j).toNat)
          case atStart => exact ⟨0, out, by omega, rfl, HC, HN5⟩
          case round =>
            obtain ⟨p, out2, hp, rfl, hs2, hn2⟩ := hrel
            clear HC HN5
            by_cases hp2 : p < 24
            · have hp3 : (p : Int) < 24 := by omega
              have cx := hs2.out.2.1.cell (j := p) (by have := hs2.out.1; omega)
              have fx := hs2.out.2.1.free p
              have cy := hn2.out.cell (j := p) (by rw [HNL.out]; exact hp2)
              have HOF := Lib.hid (fun u => hn2.out.set_far (p := ⟨w.heap.size, p, none⟩) (by simp [Value.ownBlock]; omega) u)
              generalize out2.getD p 0 = x at *
              generalize nl.getD p 0 = y at *
              go_wp2_with fail
              go_region
              all_goals
                go_wp2_with fail
                go_roundw
                case rel => exact ⟨p + 1, _, by omega, by go_num, Lib.hid (by first | exact (hs2.out.set hg p _).drew | exact hs2.out.drew.set hg p _ | exact hs2.out.set hg p _), Lib.hid (by exact HOF.out _)⟩
                case measure => simp [intOf]; omega
            · obtain rfl : p = 24 := by omega
              go_wp2_with fail
              go_roundw
              case rel => exact ⟨k + 1, out2, by omega, by go_num, Lib.hid (hs2.out.more (by omega))⟩
              case measure => simp [intOf]; omega
      · go_wp2_with fail
        obtain ⟨q2, hq2, r2⟩ := HB.out.2.2.1
        refine (pick_calls g q2 24 _ r2 (by omega) (by omega) (by omega)).mono ?_
        rintro e w3 ⟨x, rfl, x0, x1, r3, g3⟩
        have HB3 := Lib.hid (HB.out.grown hg r3 (show q2 + 1 ≤ q + 60 + 100 * k by omega) g3)
        clear r2 g3 r3 hq2
        go_wp2_with fail
        obtain ⟨q2, hq2, r2⟩ := HB3.out.2.2.1
        refine (pick_calls g q2 24 _ r2 (by omega) (by omega) (by omega)).mono ?_
        rintro e w4 ⟨y, rfl, y0, y1, r4, g4⟩
        have HB4 := Lib.hid (HB3.out.grown hg r4 (show q2 + 1 ≤ q + 61 + 100 * k by omega) g4)
        clear r2 r4 g4 HB3 hq2
        go_wp2_with fail
        obtain ⟨q2, hq2, r2⟩ := HB4.out.2.2.1
        refine (pick_calls g q2 2 _ r2 (by omega) (by omega) (by omega)).mono ?_
        rintro e w6 ⟨f1, rfl, _, _, r4, g4⟩
        have HB6 := Lib.hid (HB4.out.grown hg r4 (show q2 + 1 ≤ q + 62 + 100 * k by omega) g4)
        clear r2 r4 g4 HB4 hq2
        go_wp2_with fail
        obtain ⟨q2, hq2, r2⟩ := HB6.out.2.2.1
        refine (pick_calls g q2 2 _ r2 (by omega) (by omega) (by omega)).mono ?_
        rintro e w7 ⟨f2, rfl, _, _, r4, g4⟩
        have HD := Lib.hid (HB6.out.grown hg r4 (show q2 + 1 ≤ q + 63 + 100 * k by omega) g4)
        clear r2 r4 g4 HB6 hq2
        go_wp2_with fail
        refine (sLatticeFour_calls x y (f1 == 0) (f2 == 0) w7).mono ?_
        rintro e w5 ⟨v, rfl, o5, b5⟩
        have HC := Lib.hid ((HD.out.below b5).more (show q + 63 + 100 * k ≤ q + 90 + 100 * k by omega))
        have hszD : w.heap.size + 1 ≤ w7.heap.size := ownI_lt HD.out.2.1
        have HN5 := Lib.hid (o5.weak hszD)
        have hok := (fun h => lvFour_24 (n := x) (s := y) (f := (f1 == 0)) (g := (f2 == 0)) h)
        generalize hA : lvFour x y (f1 == 0) (f2 == 0) = AN at *
        clear hA o5 b5 HD hszB hszD HNB HB
        obtain ⟨nl, ok⟩ := AN
        dsimp only at *
        cases ok
        · go_wp2_with fail
          go_loopw [8] (fun j wr => j = .int .i64 0 ∧ w5 = wr) (fun _ _ => 0)
          case atStart => exact ⟨rfl, rfl⟩
          case round =>
            obtain ⟨rfl, hw5⟩ := hrel
            subst hw5
            go_wp2_with fail
            go_roundw
            case rel => exact ⟨k + 1, out, by omega, by go_num, Lib.hid (HC.out.more (by omega))⟩
            case measure => simp [intOf]; omega
        · have HNL := Lib.hid (hok rfl)
          obtain ⟨A7, cn, rfl⟩ := HN5.out.slice
          rw [HNL.out] at HN5 ⊢
          obtain ⟨gn, rfl, hgn1, hgn2⟩ := own_at HN5.out (by decide)
          go_wp2_with fail
          go_loopw [8] (fun j wr => ∃ (p : Nat) (out2 : List Int), p ≤ 24 ∧ j = .int .i64 p ∧ Hid (VStI w g (q + 90 + 100 * k) out2 wr) ∧ Hid (Own wr (w.heap.size + 1) (.slice (some ⟨gn, 0, none⟩) 24 cn) nl)) (fun j _ => 24 - (intOf j).toNat)
          case atStart => exact ⟨0, out, by omega, rfl, HC, HN5⟩
          case round =>
            obtain ⟨p, out2, hp, rfl, hs2, hn2⟩ := hrel
            clear HC HN5
            by_cases hp2 : p < 24
            · have hp3 : (p : Int) < 24 := by omega
              have cx := hs2.out.2.1.cell (j := p) (by have := hs2.out.1; omega)
              have fx := hs2.out.2.1.free p
              have cy := hn2.out.cell (j := p) (by rw [HNL.out]; exact hp2)
              have HOF := Lib.hid (fun u => hn2.out.set_far (p := ⟨w.heap.size, p, none⟩) (by simp [Value.ownBlock]; omega) u)
              generalize out2.getD p 0 = x at *
              generalize nl.getD p 0 = y at *
              go_wp2_with fail
              go_region
              all_goals
                go_wp2_with fail
                go_roundw
                case rel => exact ⟨p + 1, _, by omega, by go_num, Lib.hid (by first | exact (hs2.out.set hg p _).drew | exact hs2.out.drew.set hg p _ | exact hs2.out.set hg p _), Lib.hid (by exact HOF.out _)⟩
                case measure => simp [intOf]; omega
            · obtain rfl : p = 24 := by omega
              go_wp2_with fail
              go_roundw
              case rel => exact ⟨k + 1, out2, by omega, by go_num, Lib.hid (hs2.out.more (by omega))⟩
              case measure => simp [intOf]; omega
      · have HC := Lib.hid (HB.out.more (show q + 2 + 100 * k ≤ q + 90 + 100 * k by omega))
        clear HB
        generalize w2 = w5 at *
        go_wp2_with fail
        go_loopw [8] (fun j wr => j = .int .i64 0 ∧ w5 = wr) (fun _ _ => 0)
        case atStart => exact ⟨rfl, rfl⟩
        case round =>
          obtain ⟨rfl, hw5⟩ := hrel
          subst hw5
          go_wp2_with fail
          go_roundw
          case rel => exact ⟨k + 1, out, by omega, by go_num, Lib.hid (HC.out.more (by omega))⟩
          case measure => simp [intOf]; omega
    · obtain rfl : k = N := by omega
      have HE := Lib.hid (hs.out.more (show q + 1 + 100 * k ≤ q + 301 by omega))
      clear hs
      go_wp2_with fail
      obtain ⟨q1, hq1, r1⟩ := HE.out.2.2.1
      refine (pick_calls g q1 16 _ r1 (by omega) (by omega) (by omega)).mono ?_
      rintro e w2 ⟨a, rfl, a0, a1, r2, g2⟩
      have HB := Lib.hid (HE.out.grown hg r2 (show q1 + 1 ≤ q + 302 by omega) g2)
      clear HE r1 r2 g2 hq1
      by_cases h0 : a = 0
      · subst h0
        go_wp2_with fail
        obtain ⟨q1, hq1, r1⟩ := HB.out.2.2.1
        refine (pick_calls g q1 24 _ r1 (by omega) (by omega) (by omega)).mono ?_
        rintro e w3 ⟨x, rfl, x0, x1, r2, g2⟩
        have HC := Lib.hid (HB.out.grown hg r2 (show q1 + 1 ≤ q + 303 by omega) g2)
        clear HB r1 r2 g2 hq1
        go_wp2_with fail
        obtain ⟨q1, hq1, r1⟩ := HC.out.2.2.1
        refine (pick_calls g q1 9 _ r1 (by omega) (by omega) (by omega)).mono ?_
        rintro e w4 ⟨y, rfl, y0, y1, r2, g2⟩
        have HD := Lib.hid (HC.out.grown hg r2 (show q1 + 1 ≤ q + 304 by omega) g2)
        clear HC r1 r2 g2 hq1
        obtain ⟨X, rfl⟩ := Int.eq_ofNat_of_zero_le x0
        have cx := HD.out.2.1.cell (j := X) (by have := HD.out.1; omega)
        have fx := HD.out.2.1.free X
        have HZ := Lib.hid (fun z => HD.out.set hg X z)
        generalize out.getD X 0 = z at *
        go_wp2_with fail
        go_ret
        obtain ⟨h1, h2, ⟨q9, hq9, r9⟩, h4⟩ := HZ.out _
        exact ⟨_, _, q9, rfl, h2, by omega, by omega, r9, h4⟩
      have e0 : (a == 0) = false := by simpa using h0
      by_cases h1 : a = 1
      · subst h1
        have cx := HB.out.2.1.cell (j := 0) (by have := HB.out.1; omega)
        have fx := HB.out.2.1.free 0
        have HZ := Lib.hid (fun z => HB.out.set hg 0 z)
        generalize out.getD 0 0 = z at *
        go_wp2_with fail
        go_ret
        obtain ⟨h1, h2, ⟨q9, hq9, r9⟩, h4⟩ := HZ.out _
        exact ⟨_, _, q9, rfl, h2, by omega, by omega, r9, h4⟩
      have e1 : (a == 1) = false := by simpa using h1
      by_cases h2 : a = 2
      · subst h2
        obtain ⟨h1, h2, ⟨q9, hq9, r9⟩, h4⟩ := HB.out
        have h5 := h2.cut (m := 23) (by omega)
        have h6 : (out.take 23).length = 23 := by rw [List.length_take, h1]; rfl
        have HZ := Lib.hid h5
        have HR := Lib.hid r9
        have HG := Lib.hid h4
        clear h1 h2 h4 h5 r9 HB
        go_wp2_with fail
        go_ret
        exact ⟨_, _, q9, rfl, HZ.out, by omega, by omega, HR.out, HG.out⟩
      have e2 : (a == 2) = false := by simpa using h2
      go_wp2_with fail
      go_ret
      obtain ⟨h1, h2, ⟨q9, hq9, r9⟩, h4⟩ := HB.out
      exact ⟨_, _, q9, rfl, h2, by omega, by omega, r9, h4⟩
end Go.Proofs.YtiodikflmijhkaaGreatDoor
