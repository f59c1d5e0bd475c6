/- Drawing different places. -/
import Derived.Deep.RegionHeld3
import Derived.Test.YtiinekoepoonfabDoorC9
import Derived.Test.YtiinekoepoonfabDoorC11
import Derived.Test.YtiinekoepoonfabDoorM8
namespace Go.Proofs.YtiinekoepoonfabDoor
open Go.RowKit
set_option linter.unusedVariables false

theorem wtTo_addp (t p : Int) (ht : 0 ≤ t) (hp : 0 ≤ p) (h : bitI t p = 0) (n : Nat) : wtTo (t + powI p) n = wtTo t n + if p < n then 1 else 0 := by
  induction n with
  | zero => simp only [wtTo]; rw [if_neg (by omega)]; rfl
  | succ n ih =>
    simp only [wtTo]
    rw [ih, bit_add t p n ht hp (by omega) h]
    by_cases e : (n : Int) = p
    · subst e; simp [h]; omega
    · by_cases h2 : p < n
      · rw [if_pos h2, if_neg e, if_pos (by omega)]; omega
      · rw [if_neg h2, if_neg e, if_neg (by omega)]; omega
theorem wt_addp (t p : Int) (ht : 0 ≤ t) (hp : 0 ≤ p) (hp2 : p ≤ 23) (h : bitI t p = 0) : wt (t + powI p) = wt t + 1 := by
  unfold wt; rw [wtTo_addp t p ht hp h 24, if_pos (by omega)]
theorem free_place (t : Int) (h : wt t < 24) : ∃ d : Nat, d < 24 ∧ bitI t d = 0 := by
  apply Classical.byContradiction
  intro hn
  have hall : ∀ d : Nat, d < 24 → bitI t d = 1 := fun d hd => by
    rcases bitI_01 t d with h0 | h1
    · exact absurd ⟨d, hd, h0⟩ hn
    · exact h1
  have key : ∀ k : Nat, k ≤ 24 → wtTo t k = k := by
    intro k
    induction k with
    | zero => intro _; rfl
    | succ k ih => intro hk; simp only [wtTo]; rw [ih (by omega), hall k (by omega)]; omega
  have := key 24 (by omega)
  unfold wt at h; omega

/-- A row of the call's own lies as it lay where only a block below it was written. -/
theorem Own.grownG {w w' : World} {B g : Nat} {v : Value} {xs : List Int} (h : Own w B v xs) (hg : w.grownBy w' (some g)) (hB : g < B) : Own w' B v xs := by
  refine ⟨h.1, ?_⟩
  rcases h.2 with h1 | ⟨b, cap, cur, h1, h2, h3, h4⟩
  · exact .inl h1
  · exact .inr ⟨b, cap, cur, h1, h2, (hg.block b (Array.getElem?_eq_some_iff.1 h3).1 (by simp; omega)).trans h3, h4⟩
theorem grown_then_below {w w1 w2 : World} {row : Option Nat} (h : w.grownBy w1 row) (hb : Below w.heap.size w1 w2) : w.grownBy w2 row :=
  ⟨hb.os.trans h.os, hb.tape.trans h.tape, hb.output.trans h.output, Nat.le_trans h.size hb.size, fun k hk hne => (hb.block k hk).trans (h.block k hk hne)⟩
theorem free_step (T p : Int) (d : Nat) (hd : d < 24) (hb : bitI T d = 0) (h : bitI T p = 1) (p0 : 0 ≤ p) (p1 : p ≤ 23) : (((d : Int) + 24 - (p + 1) % 24).toNat) % 24 < (((d : Int) + 24 - p).toNat) % 24 := by
  have : p ≠ d := by rintro rfl; omega
  omega
theorem own_lt {w : World} {B b : Nat} {n c : Nat} {xs : List Int} (h : Own w B (.slice (some ⟨b, 0, none⟩) n c) xs) : b < w.heap.size := by
  rcases h.form with ⟨h1, _⟩ | ⟨g, cap, h1, h2, h3, _⟩
  · simp at h1
  · simp only [Value.slice.injEq, Option.some.injEq, Addr.mk.injEq] at h1
    omega
theorem pick3 (yn z : Int) (h0 : 0 ≤ yn) (h1 : yn ≤ 23) (z0 : 0 ≤ z) (z1 : z < 3) : ∃ Y : Int, (#[Value.int .i64 24, .int .i64 (-1), .int .i64 yn] : Array Value)[z.toNat]? = some (.int .i64 Y) ∧ (∀ h : z.toNat < [Value.int .i64 24, .int .i64 (-1), .int .i64 yn].length, [Value.int .i64 24, .int .i64 (-1), .int .i64 yn][z.toNat]'h = .int .i64 Y) ∧ -1 ≤ Y ∧ Y ≤ 24 := by
  have : z = 0 ∨ z = 1 ∨ z = 2 := by omega
  rcases this with rfl | rfl | rfl
  · exact ⟨24, rfl, fun _ => rfl, by omega, by omega⟩
  · exact ⟨-1, rfl, fun _ => rfl, by omega, by omega⟩
  · exact ⟨yn, rfl, fun _ => rfl, by omega, by omega⟩
theorem built_cell {w1 w2 : World} {cs : Array Value} {t : TypeId} {g i : Nat} {Y : Value} (hg : (World.drew (w1.alloc (.cells cs t))).grownBy w2 (some g)) (h : cs[i]? = some Y) (hlt : g < w1.heap.size) : w2.cell? ⟨w1.heap.size, i, none⟩ = some Y := by
  have hn : (World.drew (w1.alloc (.cells cs t))).cell? ⟨w1.heap.size, i, none⟩ = some Y := cell_new w1 cs t i Y h
  rw [World.cell?_of_block (hg.block w1.heap.size (by show _ < (w1.alloc _).heap.size; simp) (by simp; omega))]
  exact hn
theorem grown_drew {w w' : World} {row : Option Nat} (h : w.grownBy w' row) : w.grownBy w'.drew row := ⟨h.os, h.tape, h.output, h.size, h.block⟩
theorem pick_after (g q b c : Nat) (w W : World) (G0 : w.grownBy W (some g)) (xs : List Int) (B : Nat) (hg : g < B) (ho : Own W B (.slice (some ⟨b, 0, none⟩) xs.length c) xs) (hr : Rd W g q) (m : Nat) (hm : m < xs.length) (yn : Int) (hy : xs.getD m 0 = yn) (h0 : 0 ≤ yn) (h1 : yn ≤ 23) (hq : q ≤ 1048576) :
    Calls Tryd.prog 47 #[.pointer (some ⟨g, 0, none⟩), .int .i64 3] W fun e w2 => ∃ z Y : Int, e = .returned (.int .i64 z) ∧ 0 ≤ z ∧ z < 3 ∧ (#[Value.int .i64 24, .int .i64 (-1), .int .i64 yn] : Array Value)[z.toNat]? = some (.int .i64 Y) ∧ (∀ h : z.toNat < [Value.int .i64 24, .int .i64 (-1), .int .i64 yn].length, [Value.int .i64 24, .int .i64 (-1), .int .i64 yn][z.toNat]'h = .int .i64 Y) ∧ -1 ≤ Y ∧ Y ≤ 24 ∧
      w2.cell? ⟨b, m, none⟩ = some (.int .i64 yn) ∧ w2.cell? ⟨b, 0, none⟩ = some (.int .i64 (xs.getD 0 0)) ∧ w2.frozen? ⟨b, 0, none⟩ = false ∧ b < w2.heap.size ∧ Hid (Own w2 B (.slice (some ⟨b, 0, none⟩) xs.length c) xs) ∧ Hid (Rd w2 g (q + 1)) ∧ Hid (W.grownBy w2 (some g)) ∧ Hid (w.grownBy w2 (some g)) := by
  refine (pick_calls g q 3 W hr hq (by omega) (by omega)).mono ?_
  rintro e w2 ⟨z, rfl, za, zb, r2, g2⟩
  obtain ⟨Y, hY, hY', Y0, Y1⟩ := pick3 yn z h0 h1 za zb
  have o2 := ho.grownG g2 hg
  have cn := o2.cell (j := m) hm
  rw [hy] at cn
  exact ⟨z, Y, rfl, za, zb, hY, hY', Y0, Y1, cn, o2.cell (by omega), o2.free 0, own_lt o2, o2, r2, g2, grown_trans G0 g2⟩
/-- What drawing places leaves: a list of so many numbers, in memory of its own; the reader has gone on. -/
def PlacesDrawn (g q : Nat) (n : Int) (w : World) (e : Ending) (w' : World) : Prop := ∃ (v : Value) (xs : List Int) (q' : Nat), e = .returned v ∧ Own w' w.heap.size v xs ∧ (xs.length : Int) = n ∧
      (∀ x ∈ xs, -1 ≤ x ∧ x ≤ 24) ∧ q' ≤ q + 30 ∧ Rd w' g q' ∧ w.grownBy w' (some g)
theorem drawn_end {g q q2 b c : Nat} {n : Int} {w w2 : World} {xs : List Int} {Y : Int} (hg : g < w.heap.size) (hb : w.heap.size ≤ b) (o2 : Own w2 w.heap.size (.slice (some ⟨b, 0, none⟩) xs.length c) xs) (r2 : Rd w2 g q2) (hq : q2 ≤ q + 30)
    (G : w.grownBy w2 (some g)) (hn : (xs.length : Int) = n) (hx : ∀ x ∈ xs, 0 ≤ x ∧ x ≤ 23) (Y0 : -1 ≤ Y) (Y1 : Y ≤ 24) :
    PlacesDrawn g q n w (.returned (.slice (some ⟨b, 0, none⟩) xs.length c)) (w2.setCell ⟨b, 0, none⟩ (.int .i64 Y)) := by
  refine ⟨_, xs.set 0 Y, q2, rfl, o2.set 0 Y, by rw [List.length_set]; exact hn, ?_, hq, r2.keep ((Below.refl _ _).setCell (p := ⟨b, 0, none⟩) (by show g + 1 ≤ b; omega) _), grown_then_below G ((Below.refl _ _).setCell (p := ⟨b, 0, none⟩) hb _)⟩
  intro x hm
  rcases List.mem_or_eq_of_mem_set hm with h | h
  · have := hx x h; omega
  · subst h; exact ⟨Y0, Y1⟩
theorem PlacesDrawn.alloc {g q : Nat} {n : Int} {w w' : World} {e : Ending} (h : PlacesDrawn g q n w e w') (o : Obj) : PlacesDrawn g q n w e (w'.alloc o) := by
  obtain ⟨v, xs, q', h1, h2, h3, h4, h5, h6, h7⟩ := h
  exact ⟨v, xs, q', h1, h2.alloc o, h3, h4, h5, h6.below ((Below.refl _ _).alloc (Nat.le_refl _) _), grown_then_below h7 ((Below.refl _ _).alloc h7.size _)⟩
set_option maxHeartbeats 1000000 in
theorem l91Places_calls (g q : Nat) (n : Int) (w : World) (h : Rd w g q) (hq : q ≤ 800000) (h0 : 0 ≤ n) (h1 : n ≤ 23) :
    Calls Tryd.prog 46 #[.pointer (some ⟨g, 0, none⟩), .int .i64 n] w (PlacesDrawn g q n w) := by
  have hg := h.lt
  have HO := Lib.hid (own_empty w w.heap.size (Nat.le_refl _))
  have HR := Lib.hid (h.below ((Below.refl w.heap.size w).alloc (Nat.le_refl _) (.cells #[] 3)))
  have HG := Lib.hid (below_grown ((Below.refl w.heap.size w).alloc (Nat.le_refl _) (.cells #[] 3)) (some g))
  clear h
  go_enter Tryd.func46, Tryd.ntmps46
  go_wp2
  go_loopw [5, 6] (fun v t wr => ∃ (T : Int) (xs : List Int), (xs.length : Int) ≤ n ∧ t = .int .i64 T ∧ 0 ≤ T ∧ T ≤ 16777215 ∧ wt T = xs.length ∧ Hid (∀ x ∈ xs, 0 ≤ x ∧ x ≤ 23) ∧
      Hid (Own wr w.heap.size v xs) ∧ Hid (Rd wr g (q + xs.length)) ∧ Hid (w.grownBy wr (some g))) (fun _ t _ => 24 - (wt (intOf t)).toNat)
  case atStart => exact ⟨0, [], by simp; omega, rfl, by omega, by omega, by decide, Lib.hid (by simp), HO, HR, HG⟩
  case round =>
    obtain ⟨T, xs, hl, rfl, hT0, hT1, hwt, hxs, ho, hr, hgr⟩ := hrel
    by_cases hlt : (xs.length : Int) < n
    · clear HO HR HG
      obtain ⟨d, hd, hdb⟩ := free_place T (by omega)
      have HD := Lib.hid hdb
      have HWT := Lib.hid hwt
      clear hdb hwt
      obtain ⟨A, c, rfl⟩ := ho.out.slice
      go_wp2_with fail
      refine (pick_calls g _ 24 _ hr.out (by omega) (by omega) (by omega)).mono ?_
      rintro e w1 ⟨p0, rfl, p0a, p0b, r1, g1⟩
      have ho1 := Lib.hid (ho.out.grownG g1 hg)
      have hr1 := Lib.hid r1
      have hgr1 := Lib.hid (grown_trans hgr.out g1)
      clear ho hr hgr r1 g1
      go_wp2_with fail
      go_loop [7] (fun u => ∃ p : Int, u = .int .i64 p ∧ 0 ≤ p ∧ p ≤ 23) (fun u => (((d : Int) + 24 - intOf u).toNat) % 24)
      case atStart => exact ⟨p0, rfl, p0a, by omega⟩
      case round =>
        obtain ⟨p, rfl, pa, pb⟩ := hrel
        clear p0a p0b
        have hsz : w.heap.size ≤ w1.heap.size := hgr1.out.size
        rcases bitI_01 T p with hb | hb
        · have hr := addPl_range T p hT0 hT1 pa pb hb
          have hq := pow_val p pa pb
          have HW := Lib.hid (wrap_pow T p hr.1 hr.2 hq.1 hq.2)
          have hbb : (bitI T p == 1) = false := by rw [hb]; rfl
          have HT := Lib.hid (wt_addp T p hT0 pa pb hb)
          clear hb hq
          go_wp2_with (first
            | (go_at_call 66; refine (l1Bit_calls _ _ _ (by omega) (by omega)).mono ?_; rintro e w' ⟨rfl, rfl⟩)
            | (at_builtin; refine wpList_push rfl _ _ rfl w1 w.heap.size _ _ _ _ rfl rfl (by exact ho1.out) (by omega) hsz ?_; intro v2 w2 ho2 hb2 _))
          have hl2 : ((xs ++ [p]).length : Int) = (xs.length : Int) + 1 := by simp
          have HR2 := Lib.hid (hr1.out.keep (hb2.mono (by omega)))
          have HG2 := Lib.hid (grown_then_below hgr1.out hb2)
          have HX2 : Hid (∀ x ∈ xs ++ [p], 0 ≤ x ∧ x ≤ 23) := by
            intro x hx
            rcases List.mem_append.1 hx with h | h
            · exact hxs.out x h
            · simp at h; subst h; exact ⟨pa, pb⟩
          go_roundw
          case rel => exact ⟨T + powI p, xs ++ [p], by omega, by rw [HW.out], hr.1, hr.2, by rw [HT.out, HWT.out, hl2], HX2, Lib.hid ho2, by rw [List.length_append, List.length_singleton]; exact HR2, HG2⟩
          case measure => simp only [intOf]; rw [HW.out, HT.out, HWT.out]; omega
        · have hbb : (bitI T p == 1) = true := by rw [hb]; rfl
          have HM := Lib.hid (free_step T p d hd HD.out hb pa pb)
          clear hb
          go_wp2_with (go_at_call 66; refine (l1Bit_calls _ _ _ (by omega) (by omega)).mono ?_; rintro e w' ⟨rfl, rfl⟩)
          go_round
          case rel => exact ⟨(p + 1) % 24, rfl, by omega, by omega⟩
          case measure => simp only [intOf]; exact HM.out
    · have hl' : (xs.length : Int) = n := by omega
      have hle : xs.length ≤ 23 := by omega
      clear HO HR HG
      obtain ⟨A, c, rfl⟩ := ho.out.slice
      by_cases hz : n = 0
      · subst hz
        go_wp2
        go_ret
        exact ⟨_, xs, _, rfl, ho.out, hl', fun x hx => by have := hxs.out x hx; omega, by omega, hr.out, hgr.out⟩
      · have hn0 : 0 < n := by omega
        go_wp2_with fail
        refine (pick_calls g _ 20 _ hr.out (by omega) (by omega) (by omega)).mono ?_
        rintro e w1 ⟨z, rfl, za, zb, r1, g1⟩
        have ho1 := Lib.hid (ho.out.grownG g1 hg)
        have hr1 := Lib.hid r1
        have hgr1 := Lib.hid (grown_trans hgr.out g1)
        clear ho hr hgr r1 g1
        by_cases hz0 : z = 0
        · subst hz0
          obtain ⟨b, rfl, hb1, hb2⟩ := own_at ho1.out (by omega)
          go_wp2_with fail
          obtain ⟨m, rfl⟩ : ∃ m : Nat, n = (m : Int) + 1 := ⟨n.toNat - 1, by omega⟩
          have c0 := ho1.out.cell (j := 0) (by omega)
          have cn := ho1.out.cell (j := m) (by omega)
          have f0 := ho1.out.free 0
          have i1 : (m : Int) < xs.length := by omega
          have hyn : 0 ≤ xs.getD m 0 ∧ xs.getD m 0 ≤ 23 := by
            rw [List.getD_eq_getElem?_getD, List.getElem?_eq_getElem (by omega)]
            exact hxs.out _ (List.getElem_mem _)
          obtain ⟨yn0, yn1⟩ := hyn
          generalize hy : xs.getD m 0 = yn at *
          have HY := Lib.hid hy
          clear hl' hy
          have hwr : IntKind.i64.wrap (m : Int) = m := by rw [IntKind.wrap_i64]; omega
          have ra := Lib.hid (hr1.out.below ((Below.refl w1.heap.size w1).alloc (Nat.le_refl _) (.cells #[.int .i64 24, .int .i64 (-1), .int .i64 yn] 3)))
          have oa := Lib.hid (ho1.out.alloc (.cells #[.int .i64 24, .int .i64 (-1), .int .i64 yn] 3))
          have hsz : g < w1.heap.size := hr1.out.lt
          have ga := Lib.hid (grown_drew (grown_then_below hgr1.out ((Below.refl _ _).alloc hgr1.out.size (.cells #[.int .i64 24, .int .i64 (-1), .int .i64 yn] 3))))
          have gb := Lib.hid (grown_drew hgr1.out)
          go_region_with (go_at_call 47; first
            | (refine (pick_after g (q + xs.length + 1) b c w (World.drew (w1.alloc _)) ga.out xs w.heap.size hg oa.out ra.out m (by omega) yn HY.out yn0 yn1 (by omega)).mono ?_; rintro e w2 ⟨z, Y, rfl, za, zb, hY, hY', Y0, Y1, cn2, c02, f2, lb2, o2, r2, g2, G2⟩; have cY := built_cell g2.out hY (by omega))
            | (refine (pick_after g (q + xs.length + 1) b c w (World.drew w1) gb.out xs w.heap.size hg ho1.out hr1.out m (by omega) yn HY.out yn0 yn1 (by omega)).mono ?_; rintro e w2 ⟨z, Y, rfl, za, zb, hY, hY', Y0, Y1, cn2, c02, f2, lb2, o2, r2, g2, G2⟩))
          all_goals go_wp2
          all_goals go_ret
          all_goals
            have hlen : (xs.length : Int) = (m : Int) + 1 := by omega
            first
            | exact drawn_end (w2 := w2) hg hb1 o2.out r2.out (by omega) G2.out hlen hxs.out Y0 Y1
            | exact (drawn_end (w2 := w2) hg hb1 o2.out r2.out (by omega) G2.out hlen hxs.out Y0 Y1).alloc _
        · have ez : (z == 0) = false := by simpa using hz0
          go_wp2
          go_ret
          exact ⟨_, xs, _, rfl, ho1.out, hl', fun x hx => by have := hxs.out x hx; omega, by omega, hr1.out, hgr1.out⟩
end Go.Proofs.YtiinekoepoonfabDoor
