/- The walk of the promise of the lines. -/
import Derived.Test.YtnfpdonlknkccaaDoorC92
import Derived.Test.YtnfpdonlknkccaaDoorC93
import Derived.Test.YtnfpdonlknkccaaDoorC97
import Derived.Test.YtnfpdonlknkccaaDoorQ3
namespace Go.Proofs.YtnfpdonlknkccaaDoor
open Go.RowKit
set_option linter.unusedVariables false
attribute [local irreducible] octS cN octF syn

theorem quietD_left {P : Program} {f : FuncId} {args : Array Value} {w : World} {n : Nat} {v : Value}
    (h : Calls P f args (w.drewN n) fun e w' => e = .returned v ∧ ∃ k, w' = (w.drewN n).drewN k) : Calls P f args (w.drewN n) fun e w'' => e = .returned v ∧ ∃ m, w'' = w.drewN m :=
  h.mono fun _ _ ⟨he, k, hk⟩ => ⟨he, n + k, by rw [hk, World.drewN_drewN]⟩
theorem quietD_add_left {P : Program} {f : FuncId} {args : Array Value} {w : World} {a n : Nat} {v : Value}
    (h : Calls P f args (w.drewN (a + n)) fun e w' => e = .returned v ∧ ∃ k, w' = (w.drewN (a + n)).drewN k) : Calls P f args (w.drewN (a + n)) fun e w'' => e = .returned v ∧ ∃ m, w'' = w.drewN (a + m) :=
  h.mono fun _ _ ⟨he, k, hk⟩ => ⟨he, n + k, by rw [hk, World.drewN_drewN, Nat.add_assoc]⟩
theorem lns_one {B : Nat} (hB : IsBase B) (i : Nat) (hi : i < 21) : IsW ((lns (B : Int)).getD i 0) ∧ wt ((lns (B : Int)).getD i 0) = 5 ∧ andI ((lns (B : Int)).getD i 0) (B : Int) = 0 := by
  have e : (lns (B : Int)).getD i 0 ∈ lns (B : Int) := by rw [← getD_at _ i (by rw [lns_len hB]; exact hi)]; exact List.getElem_mem _
  obtain ⟨l, h1, h2⟩ := (lns_mem hB _).1 e
  obtain ⟨h3, h4, h5, _⟩ := h1.facts hB
  rw [h2, wt_pop, h4, andI_nat, h5]
  exact ⟨⟨by omega, by omega⟩, rfl, rfl⟩
theorem lns_two {B : Nat} (hB : IsBase B) (i k : Nat) (hi : i < 21) (hk : k < i) : (lns (B : Int)).getD k 0 < (lns (B : Int)).getD i 0 ∧ wt (andI ((lns (B : Int)).getD i 0) ((lns (B : Int)).getD k 0)) = 1 := by
  have hl := lns_len hB
  have hlt := asc_get (lns_asc hB) hk (by omega : i < (lns (B : Int)).length)
  have e : ∀ j, j < 21 → ∃ l, IsLine B l ∧ (lns (B : Int)).getD j 0 = (l : Int) := fun j hj => by
    have : (lns (B : Int)).getD j 0 ∈ lns (B : Int) := by rw [← getD_at _ j (by omega)]; exact List.getElem_mem _
    exact (lns_mem hB _).1 this
  obtain ⟨l, h1, h2⟩ := e i hi
  obtain ⟨m, h3, h4⟩ := e k (by omega)
  refine ⟨hlt, ?_⟩
  rw [h2, h4] at hlt ⊢
  have hne : l ≠ m := fun h => by rw [h] at hlt; omega
  rw [andI_nat, wt_pop, h1.meet hB h3 hne]
  rfl
set_option maxHeartbeats 4000000 in
theorem walk_FnLines (a0 : Option Addr) (len0 cap0 : Nat) (z0 : List Int) (w : World) (w0 : IsRow .u8 w a0 len0 cap0 z0) (hT : Tab2 w) :
    Calls Tryd.prog 3 #[.slice a0 len0 cap0] w fun e w' => e = .returned (.bool true) ∧ Below w.heap.size w w' := by
  obtain ⟨bs, rfl, hr, hc, hm, hv⟩ := w0.bytes
  have hm' := hm
  unfold maxLen at hm'
  by_cases hbig : 1048576 < bs.length
  · go_enter Tryd.func3, Tryd.ntmps3
    go_wp2_with fail
    go_ret
    exact ⟨rfl, Below.refl _ _⟩
  have hbig' : bs.length ≤ 1048576 := by omega
  clear hbig
  go_enter Tryd.func3, Tryd.ntmps3
  go_wp2_with fail
  refine (DrawPlaneLines_calls _ _ bs _ hr hc hm hv).mono ?_
  rintro e w1 ⟨a, rfl, a0, a1, b1⟩
  have B0 := Lib.hid (b1)
  rcases hb : baseB a with _ | _
  · have H := Lib.hid (show plLines a = ([], false) by simp [plLines, hb])
    clear hb
    go_wp2_with fail
    refine (iPlaneLines_calls a _ (hT.below (B0.out) hT.lt)).mono ?_
    rintro e w1_ ⟨v1_, he, o1_, b1_⟩
    rw [H.out] at he o1_
    dsimp only at he o1_
    subst he
    obtain ⟨Ax, cx, rfl⟩ := o1_.slice
    have B1 := Lib.hid ((B0.out).trans (b1_.mono (B0.out).size))
    have Ox1 := Lib.hid (o1_.weak (B0.out).size)
    go_wp2_with fail
    refine (sPlaneLines_calls a _).mono ?_
    rintro e w2_ ⟨v2_, he, o2_, b2_⟩
    rw [H.out] at he o2_
    dsimp only at he o2_
    subst he
    obtain ⟨Ay, cy, rfl⟩ := o2_.slice
    have B2 := Lib.hid ((B1.out).trans (b2_.mono (B1.out).size))
    have Ox2 := Lib.hid ((Ox1.out).below b2_)
    have Oy2 := Lib.hid (o2_.weak (B1.out).size)
    go_wp2_with fail
    refine (sameInts_calls _ _ _ _ [] [] _ (Ox2.out).rds (Oy2.out).rds (Ox2.out).len_le (Oy2.out).len_le).mono ?_
    rintro e w' ⟨he, k3_, rfl⟩
    rw [eqL_refl] at he
    subst he
    have B3 := Lib.hid (below_drewN (B2.out) k3_)
    have Ox3 := Lib.hid ((Ox2.out).drewN k3_)
    have Oy3 := Lib.hid ((Oy2.out).drewN k3_)
    go_wp2_with fail
    refine (sameInts_calls _ _ _ _ [] [] _ (Ox3.out).rds (Oy3.out).rds (Ox3.out).len_le (Oy3.out).len_le).mono ?_
    rintro e w' ⟨he, k4_, rfl⟩
    rw [eqL_refl] at he
    subst he
    have B4 := Lib.hid (below_drewN (B3.out) k4_)
    have Ox4 := Lib.hid ((Ox3.out).drewN k4_)
    have Oy4 := Lib.hid ((Oy3.out).drewN k4_)
    go_wp2_with fail
    go_ret
    first | exact ⟨rfl, B4.out⟩ | exact ⟨rfl, by have hB := B4.out; simp only [World.drewN_drewN] at hB; exact hB⟩
  · obtain ⟨B, rfl, hB⟩ := baseB_nat hb
    have H := Lib.hid (show plLines (B : Int) = (lns (B : Int), true) by simp [plLines, hb])
    have HLEN := Lib.hid (lns_len hB)
    have H1 := Lib.hid (fun i hi => lns_one hB i hi)
    have H2 := Lib.hid (fun i k hi hk => lns_two hB i k hi hk)
    have wB : IsW (B : Int) := ⟨by omega, by have := hB.1; omega⟩
    clear hb
    generalize lns (B : Int) = zs at *
    generalize (B : Int) = b at *
    go_wp2_with fail
    refine (iPlaneLines_calls b _ (hT.below (B0.out) hT.lt)).mono ?_
    rintro e w1_ ⟨v1_, he, o1_, b1_⟩
    rw [H.out] at he o1_
    dsimp only at he o1_
    subst he
    obtain ⟨Ax, cx, rfl⟩ := o1_.slice
    have B1 := Lib.hid ((B0.out).trans (b1_.mono (B0.out).size))
    have Ox1 := Lib.hid (o1_.weak (B0.out).size)
    go_wp2_with fail
    refine (sPlaneLines_calls b _).mono ?_
    rintro e w2_ ⟨v2_, he, o2_, b2_⟩
    rw [H.out] at he o2_
    dsimp only at he o2_
    subst he
    obtain ⟨Ay, cy, rfl⟩ := o2_.slice
    have B2 := Lib.hid ((B1.out).trans (b2_.mono (B1.out).size))
    have Ox2 := Lib.hid ((Ox1.out).below b2_)
    have Oy2 := Lib.hid (o2_.weak (B1.out).size)
    go_wp2_with fail
    refine (sameInts_calls _ _ _ _ zs zs _ (Ox2.out).rds (Oy2.out).rds (Ox2.out).len_le (Oy2.out).len_le).mono ?_
    rintro e w' ⟨he, k3_, rfl⟩
    rw [eqL_refl] at he
    subst he
    have B3 := Lib.hid (below_drewN (B2.out) k3_)
    have Ox3 := Lib.hid ((Ox2.out).drewN k3_)
    have Oy3 := Lib.hid ((Oy2.out).drewN k3_)
    have HX := Lib.hid (Ox3.out)
    have HBZ := Lib.hid (B3.out)
    have hl21 : ((zs.length : Nat) : Int) = 21 := by rw [HLEN.out]; rfl
    go_wp2_with fail
    obtain ⟨W0, hW0⟩ : ∃ W0, W0 = w2_.drewN k3_ := ⟨_, rfl⟩
    rw [← hW0] at HX HBZ ⊢
    go_loopw [8] (fun v wq => ∃ i m : Nat, v = .int .i64 (i : Nat) ∧ i ≤ 21 ∧ Hid (wq = W0.drewN m)) (fun v _ => 21 - (intOf v).toNat)
    case atStart => exact ⟨0, 0, rfl, by omega, Lib.hid rfl⟩
    case round =>
      obtain ⟨i, m, rfl, hi, HW⟩ := hrel
      by_cases hlt : i < 21
      · have hli : i < zs.length := by rw [HLEN.out]; exact hlt
        obtain ⟨g, hg, hgb, _⟩ := own_at HX.out (by omega : 0 < zs.length)
        have HCX := Lib.hid (fun j (hj : j < 21) => show wr.cell? ⟨g, j, none⟩ = some (.int .i64 (zs.getD j 0)) by
          rw [HW.out]
          have := HX.out
          rw [hg] at this
          exact (this.drewN m).cell (by rw [HLEN.out]; exact hj))
        subst hg
        have hci := HCX.out i hlt
        obtain ⟨wy, h5, h0⟩ := H1.out i hlt
        have HT2 := Lib.hid (fun k hk => H2.out i k hlt hk)
        have HWI := Lib.hid (fun k hk => (H1.out k hk).1)
        obtain ⟨y, hy⟩ : ∃ y, zs.getD i 0 = y := ⟨_, rfl⟩
        rw [hy] at hci wy h5 h0 HT2
        have hand : bits .and .i64 y b = 0 := by rw [and_i64 _ _ wy.1 (by have := wy.2; omega) wB.1 (by have := wB.2; omega)]; exact h0
        have hiI : (i : Int) < 21 := by omega
        have hi0 : (0 : Int) ≤ (i : Int) := by omega
        have H5 := Lib.hid h5
        clear h5 h0 hy
        go_wp2_with fail
        refine (iWordWeight_ok y _ wy).mono ?_
        rintro e w5 ⟨he, k5, rfl⟩
        rw [H5.out] at he
        subst he
        have HW5 := Lib.hid (show wr.drewN k5 = W0.drewN (m + k5) by rw [HW.out, World.drewN_drewN])
        have hci5 : (wr.drewN k5).cell? ⟨g, i, none⟩ = some (.int .i64 y) := hci
        have HCX5 := Lib.hid (fun j (hj : j < 21) => show (wr.drewN k5).cell? ⟨g, j, none⟩ = some (.int .i64 (zs.getD j 0)) from HCX.out j hj)
        generalize wr.drewN k5 = W5 at *
        clear HCX hci
        go_wp2_with fail
        go_loopw [9] (fun v wq => ∃ k m2 : Nat, v = .int .i64 (k : Nat) ∧ k ≤ i ∧ Hid (wq = W5.drewN m2)) (fun v _ => i - (intOf v).toNat)
        case atStart => exact ⟨0, 0, rfl, by omega, Lib.hid rfl⟩
        case round =>
          obtain ⟨k, m2, rfl, hk, HW2⟩ := hrel
          by_cases hki : k < i
          · have ek : wr.cell? ⟨g, k, none⟩ = some (.int .i64 (zs.getD k 0)) := by rw [HW2.out]; exact HCX5.out k (by omega)
            have ei : wr.cell? ⟨g, i, none⟩ = some (.int .i64 y) := by rw [HW2.out]; exact hci5
            obtain ⟨hxy, h1⟩ := HT2.out k hki
            have wx := HWI.out k (by omega)
            obtain ⟨x, hx⟩ : ∃ x, zs.getD k 0 = x := ⟨_, rfl⟩
            rw [hx] at ek hxy h1 wx
            clear hx
            have hxa : bits .and .i64 y x = andI y x := and_i64 _ _ wy.1 (by have := wy.2; omega) wx.1 (by have := wx.2; omega)
            have wa : IsW (andI y x) := ⟨andI_nonneg _ _, andI_le _ _ wx.2⟩
            generalize andI y x = X at *
            have HWT := Lib.hid (fun U => iWordWeight_ok X U wa)
            rw [h1] at HWT
            clear h1
            have hkI : (k : Int) < (i : Int) := by omega
            have hk0 : (0 : Int) ≤ (k : Int) := by omega
            have hk21 : (k : Int) < 21 := by omega
            have hge : ¬ y ≤ x := by omega
            go_wp2_with fail
            go_quiet ((go_at_call 9; first | exact quietD_left (HWT.out _) | exact quietD_add_left (HWT.out _)))
            go_wp2_with fail
            go_roundw
            case rel => exact ⟨k + 1, m2 + nq, by go_num, by omega, Lib.hid (by rw [HW2.out, World.drewN_drewN])⟩
            case measure => first | (simp [intOf]; done) | (simp [intOf]; omega)
          · obtain rfl : k = i := by omega
            go_wp2_with fail
            go_roundw
            case rel => exact ⟨k + 1, m + k5 + m2, by go_num, by omega, Lib.hid (by rw [HW2.out, HW5.out, World.drewN_drewN])⟩
            case measure => first | (simp [intOf]; done) | (simp [intOf]; omega)
      · obtain rfl : i = 21 := by omega
        have B4 := Lib.hid (show Below w.heap.size w wr by rw [HW.out]; exact below_drewN HBZ.out m)
        go_wp2_with fail
        go_ret
        exact ⟨rfl, B4.out⟩
end Go.Proofs.YtnfpdonlknkccaaDoor
