/- Cycles of the model; PermCycles of both sides. -/
import Derived.Test.YtakefnfhjiodnaaC114
namespace Go.Proofs.Ytakefnfhjiodnaa
open Go.RowKit
set_option linter.unusedVariables false
attribute [local irreducible] cN syn

/-- The cells of a set of places, one truth value each. -/
def VB (s : Nat) : Array Value := ((List.range 24).map fun q => Value.bool (s.testBit q)).toArray
theorem VB_at {w : World} {g j : Nat} {t : TypeId} (s : Nat) (hj : j < 24) (hg : w.heap[g]? = some (.cells (VB s) t (0, 0))) : w.cell? ⟨g, j, none⟩ = some (.bool (s.testBit j)) := by
  rw [Lib.cell_of_heap hg]
  simp [VB, hj]
theorem VB_eq (s q : Nat) (hq : q < 24) (hb : s.testBit q = false) : (VB s).setIfInBounds q (.bool true) = VB (s ^^^ 2 ^ q) := by
  unfold VB
  rw [List.setIfInBounds_toArray]
  congr 1
  refine List.ext_getElem (by simp) fun i h1 h2 => ?_
  simp only [List.getElem_set, List.getElem_map, List.getElem_range, Nat.testBit_xor, Nat.testBit_two_pow]
  by_cases e : q = i
  · subst e
    rw [hb]
    simp
  · simp [e]
theorem vb_set {w V X : World} {g q s s' : Nat} {t0 : TypeId} (h3 : V.heap[g]? = some (.cells (VB s) t0 (0, 0))) (hg : w.heap.size ≤ g) (hB : Below w.heap.size w V) (hq : q < 24) (hb : s.testBit q = false) (hs : s' = s ^^^ 2 ^ q)
    (hX : X.heap = (V.setCell ⟨g, q, none⟩ (.bool true)).heap) (hX2 : X.os = V.os ∧ X.tape = V.tape ∧ X.output = V.output) :
    X.heap[g]? = some (.cells (VB s') t0 (0, 0)) ∧ (∀ p, p ≠ g → X.heap[p]? = V.heap[p]?) ∧ Below w.heap.size w X := by
  have k1 : ∀ p, p ≠ g → X.heap[p]? = V.heap[p]? := fun p hp => by rw [hX]; exact Below.heap_setCell V _ _ p hp
  have a3 := heap_setCell_same V g q (VB s) t0 (.bool true) h3
  rw [VB_eq s q hq hb, ← hX, ← hs] at a3
  have b0 : Below w.heap.size V (V.setCell ⟨g, q, none⟩ (.bool true)) := (Below.refl _ V).setCell (show w.heap.size ≤ g from hg) _
  exact ⟨a3, k1, hB.trans ⟨hX2.1, hX2.2.1, hX2.2.2, by rw [hX]; exact b0.size, fun p hp => by rw [hX]; exact b0.block p hp⟩⟩
theorem wpList_pushC {ops : Array Oper} {rest : List Oper} {o : Oper} {a : Act} {Q : Exit → Act → World → Prop} (hgd : o.guard = none) (s y : Operand)
    (ho : o.op = .call { callee := .builtin .append, args := #[s, y], argTypes := #[23, 23] })
    (w : World) (B : Nat) (v : Value) (xs : List Int) (x : Int) (c : Nat) (hs : a.eval s = v) (hy : a.eval y = .slice (some ⟨w.heap.size, 0, none⟩) 1 c)
    (hown : Own w B v xs) (hlen : xs.length ≤ 1048576) (hB : B ≤ w.heap.size)
    (h : ∀ v' w', Own w' B v' (xs ++ [x]) → Below B w w' → w.grownBy w' v.ownBlock → (∀ k, v'.ownBlock = some k → v.ownBlock = some k ∨ w.heap.size ≤ k) → wpList Try.prog ops Q rest (a.put o.dst v') w') :
    wpList Try.prog ops Q (o :: rest) a (w.alloc (.cells #[.int .i64 x] 3)) := by
  obtain ⟨i0, hi, hz0, hz1, hz2⟩ := info_parts intRow
  refine wpList_append_own_at _ hgd s y 23 ho B 3 i0 (.int .i64 0) 1 8 Try.underlying23 hi hz0 hz1 hz2 rfl (by decide) v xs.length (vals .i64 xs) hs
    (World.ownsRow.alloc hown _) ⟨w.heap.size, 0, none⟩ 1 c [.int .i64 x] hy rfl ?_ ?_ (by unfold maxLen; omega) (by omega) (by simp; omega) ?_
  · intro j u hj
    match j, hj with
    | 0, hj => simp at hj; subst hj; simp [Addr.add]
  · intro u hu; simp at hu; subst hu; rfl
  · intro v' w' h1 h2 _ h3
    have hg : w.grownBy w' v.ownBlock := grown_trans (World.grownBy_alloc w _ _) h2
    refine h v' w' ?_ ((Below.refl B w).grown hg hB (own_row_ge hown)) hg ?_
    · unfold Own
      rw [vals_append, show vals .i64 [x] = [Value.int .i64 x] from rfl]
      simpa using h1
    · intro k hk
      rcases h3 with h3 | h3
      · exact .inl (h3 ▸ hk)
      · rw [h3] at hk
        simp at hk
        exact .inr (by omega)
theorem two_heapC (w : World) (o0 o1 : Obj) : ((w.alloc o0).alloc o1).heap[w.heap.size]? = some o0 ∧ ((w.alloc o0).alloc o1).heap[w.heap.size + 1]? = some o1 ∧ Below w.heap.size w ((w.alloc o0).alloc o1) := by
  refine ⟨?_, ?_, ((Below.refl _ w).alloc (Nat.le_refl _) _).alloc (by simp) _⟩
  · exact (Below.heap_alloc _ _ _ (by simp; try omega)).trans (heap_alloc_new w _)
  · have := heap_alloc_new (w.alloc o0) o1
    rw [alloc_sz] at this
    exact this
theorem mk24b (W : World) : (Instr.makeSlice 61 (.int .i64 24) (.int .i64 24)).run Try.prog W = .ok (.slice (some ⟨W.heap.size, 0, none⟩) 24 24) (W.alloc (.cells (VB 0) 4)) := by kernel_rfl
theorem l4Sort_small (A : Option Addr) (n c : Nat) (hn : n < 2) (w : World) : Calls Try.prog 32 #[.slice A n c] w fun e w' => e = .returned (.slice A n c) ∧ w = w' := by
  have h1 : (n : Int) < 2 := by omega
  go_enter Try.func32, Try.ntmps32
  go_wp2_with fail
  go_ret
  exact ⟨rfl, rfl⟩
set_option maxRecDepth 100000 in
set_option maxHeartbeats 2000000 in
theorem l7Cycles_calls (A : Option Addr) (c : Nat) (xs : List Int) (w : World) (ha : Rds w w.heap.size .i64 A xs) (hp : permB xs = true) :
    Calls Try.prog 15 #[.slice A xs.length c] w fun e w' => ∃ v, e = .returned v ∧ Own w' w.heap.size v (cycI xs) ∧ Below w.heap.size w w' := by
  obtain ⟨hP, _⟩ := permB_perm hp
  have HMK := mk24b
  have HAT := Lib.hid (fun k hk => permB_at hp k hk)
  have HL := Lib.hid (permB_len hp)
  have HCN := Lib.hid (fun k hk => cyTo_len hP k hk)
  have HSE := Lib.hid (fun k hb => cyTo_seen_succ (natP xs) k hb)
  have HNE := Lib.hid (fun k hk hb => cyTo_new_succ hP k hk hb)
  have HOR := Lib.hid (fun k hk => ord_spec hP k hk)
  have HWN := Lib.hid (fun k hk hb m hm => wkS_new hP (cyTo (natP xs) k).2 k hk (cyTo_whole hP k (by omega)) hb m hm)
  have HWO := Lib.hid (fun k hk hb => wkS_old hP (cyTo (natP xs) k).2 k hk (cyTo_whole hP k (by omega)) hb)
  have HIT := Lib.hid (fun m k hk => itN_lt hP m k hk)
  have HE := Lib.hid (own_empty2 w w.heap.size (Nat.le_refl _))
  have HPOS := Lib.hid (show 0 < (cyTo (natP xs) 24).1.length from rawC_pos hP)
  have HCY := Lib.hid (show cycI xs = (intP (cyTo (natP xs) 24).1).mergeSort fun x y => decide (x ≤ y) from rfl)
  have HT := Lib.hid (two_heapC w (.cells #[] 3) (.cells (VB 0) 4))
  clear hP hp
  go_enter Try.func15, Try.ntmps15
  go_wp2_with fail
  go_loopw [3, 5] (fun v i wr => ∃ k : Nat, k ≤ 24 ∧ i = .int .i64 k ∧ Hid (Own wr w.heap.size v (intP (cyTo (natP xs) k).1)) ∧ Hid (∀ g, v.ownBlock = some g → g ≠ w.heap.size + 1) ∧ Hid (wr.heap[w.heap.size + 1]? = some (.cells (VB (cyTo (natP xs) k).2) 4 (0, 0))) ∧ Hid (Below w.heap.size w wr)) (fun _ i _ => 24 - (intOf i).toNat)
  case atStart => exact ⟨0, by omega, rfl, Lib.hid (HE.out.alloc _), Lib.hid (fun g hg => by simp [Value.ownBlock] at hg; omega), Lib.hid HT.out.2.1, Lib.hid HT.out.2.2⟩
  case round =>
    obtain ⟨k, hk, rfl, ho, hne, hvb, hbl⟩ := hrel
    clear HE HT
    have hsv : w.heap.size + 1 < wr.heap.size := (Array.getElem?_eq_some_iff.1 hvb.out).1
    by_cases hlt : k < 24
    · have hk1 : (0 : Int) ≤ (k : Int) := by omega
      have hk2 : (k : Int) < 24 := by omega
      cases hb : (cyTo (natP xs) k).2.testBit k
      · have HNEW := Lib.hid (HNE.out k hlt hb)
        obtain ⟨_, ho1, ho2, _⟩ := HOR.out k hlt
        have HW := Lib.hid (fun m hm => HWN.out k hlt hb m hm)
        have HO := Lib.hid (HWO.out k hlt hb)
        have HLN := Lib.hid (HCN.out k hk)
        have HITK := Lib.hid (fun m => HIT.out m k hlt)
        have HS0 := Lib.hid (show wkS (natP xs) (cyTo (natP xs) k).2 k 0 = (cyTo (natP xs) k).2 from rfl)
        have HSS := Lib.hid (fun m => show wkS (natP xs) (cyTo (natP xs) k).2 k (m + 1) = wkS (natP xs) (cyTo (natP xs) k).2 k m ^^^ 2 ^ itN (natP xs) m k from rfl)
        have HIS := Lib.hid (fun m => show itN (natP xs) (m + 1) k = (natP xs).getD (itN (natP xs) m k) 0 from rfl)
        have HI0 := Lib.hid (show itN (natP xs) 0 k = k from rfl)
        clear hb
        obtain ⟨WK, hWK⟩ : ∃ f : Nat → Nat, wkS (natP xs) (cyTo (natP xs) k).2 k = f := ⟨_, rfl⟩
        obtain ⟨IT, hIT⟩ : ∃ f : Nat → Nat, (fun m => itN (natP xs) m k) = f := ⟨_, rfl⟩
        have hITm : ∀ m, itN (natP xs) m k = IT m := fun m => by rw [← hIT]
        simp only [hWK, hITm] at HW HO HITK HS0 HSS HIS HI0 HNEW
        generalize ordI (natP xs) k = d at *
        have hvb0 := hvb.out
        rw [← HS0.out] at hvb0
        have HVB0 := Lib.hid hvb0
        obtain ⟨V4, hV4⟩ : ∃ V, V = wr := ⟨_, rfl⟩
        subst hV4
        clear hvb0
        go_wp2_with fail
        go_loopw [6, 7] (fun n pl w2 => ∃ m : Nat, m ≤ d ∧ n = .int .i64 m ∧ pl = .int .i64 ((IT m : Nat) : Int) ∧ Hid (w2.heap[w.heap.size + 1]? = some (.cells (VB (WK m)) 4 (0, 0))) ∧ Hid (Own w2 w.heap.size u3 (intP (cyTo (natP xs) k).1)) ∧ Hid (Below w.heap.size w w2)) (fun n _ _ => d - (intOf n).toNat)
        case atStart => exact ⟨0, by omega, rfl, by rw [HI0.out], HVB0, ho, hbl⟩
        case round =>
          obtain ⟨m, hm, rfl, rfl, hvm, hom, hbm⟩ := hrel
          have hpl := HITK.out m
          have hpl0 : (0 : Int) ≤ (IT m : Int) := by omega
          have hpl1 : (IT m : Int) < 24 := by omega
          have hcb := VB_at (WK m) hpl hvm.out
          by_cases hmd : m < d
          · have hwf := HW.out m hmd
            rw [hwf] at hcb
            obtain ⟨B1, o1, rfl, hB1, c1⟩ := (ha.below hbm.out).at_ (j := IT m) (by have := HL.out; omega)
            rw [(HAT.out (IT m) hpl).1, ← HIS.out] at c1
            have kl : (IT m : Int) < xs.length := by have := HL.out; omega
            have HF := Lib.hid (fun X => vb_set (X := X) hvm.out (by omega) hbm.out hpl hwf (HSS.out m))
            have hfz : wr.frozen? ⟨w.heap.size + 1, IT m, none⟩ = false := Lib.frozen_of_heap hvm.out (IT m)
            have HOF := Lib.hid (fun (u : Value) => hom.out.set_far (p := ⟨w.heap.size + 1, IT m, none⟩) (fun e => hne.out _ e rfl) u)
            have hc1' : ∀ (u : Value), (wr.setCell ⟨w.heap.size + 1, IT m, none⟩ u).cell? ⟨B1, o1 + IT m, none⟩ = some (.int .i64 ((IT (m + 1) : Nat) : Int)) := fun u => by
              rw [World.cell?_setCell_other _ _ _ _ (by simp; try omega)]
              exact c1
            clear hwf
            go_wp2_with fail
            go_roundw
            case rel =>
              refine ⟨m + 1, by omega, by go_num, rfl, Lib.hid ?_, Lib.hid (HOF.out _), Lib.hid ?_⟩
              · exact (HF.out _ rfl ⟨rfl, rfl, rfl⟩).1
              · exact (HF.out _ rfl ⟨rfl, rfl, rfl⟩).2.2
            case measure => simp [intOf]; omega
          · obtain rfl : m = d := by omega
            rw [HO.out] at hcb
            have hlen : (intP (cyTo (natP xs) k).1).length ≤ 24 := by rw [intP_len]; have := HLN.out; omega
            have hsz := hbm.out.size
            have hm0 : (0 : Int) < (m : Int) := by omega
            have hs2 : w.heap.size + 1 < wr.heap.size := (Array.getElem?_eq_some_iff.1 hvm.out).1
            go_wp2_with (at_builtin; refine wpList_pushC rfl _ _ rfl _ w.heap.size _ _ _ _ rfl rfl (by exact hom.out) (by omega) (by omega) ?_; intro v2 w2 ho2 hb2 hg2 hat)
            go_roundw
            case rel =>
              refine ⟨k + 1, by omega, by go_num, Lib.hid ?_, Lib.hid ?_, Lib.hid ?_, Lib.hid (hbm.out.trans hb2)⟩
              · rw [HNEW.out, intP_snoc]; exact ho2
              · intro g hg e
                rcases hat g hg with h | h
                · exact hne.out g h e
                · omega
              · rw [HNEW.out]
                exact (hg2.block (w.heap.size + 1) hs2 (fun e => hne.out _ e.symm rfl)).trans hvm.out
            case measure => simp [intOf]; omega
      · have HOLD := Lib.hid (HSE.out k hb)
        have hcb := VB_at (cyTo (natP xs) k).2 hlt hvb.out
        rw [hb] at hcb
        clear hb
        obtain ⟨V4, hV4⟩ : ∃ V, V = wr := ⟨_, rfl⟩
        subst hV4
        go_wp2_with fail
        go_loopw [6, 7] (fun n pl w2 => n = .int .i64 0 ∧ pl = .int .i64 (k : Int) ∧ V4 = w2) (fun n _ _ => 0)
        case atStart => exact ⟨rfl, rfl, rfl⟩
        case round =>
          obtain ⟨rfl, rfl, hww⟩ := hrel
          subst hww
          go_wp2_with fail
          go_roundw
          case rel =>
            refine ⟨k + 1, by omega, by go_num, Lib.hid ?_, hne, Lib.hid ?_, hbl⟩
            · rw [HOLD.out]; exact ho.out
            · rw [HOLD.out]; exact hvb.out
          case measure => simp [intOf]; omega
    · obtain rfl : k = 24 := by omega
      have hlen : (intP (cyTo (natP xs) 24).1).length ≤ 24 := by
        rw [intP_len]
        exact HCN.out 24 (Nat.le_refl _)
      have hpos : 0 < (intP (cyTo (natP xs) 24).1).length := by rw [intP_len]; exact HPOS.out
      obtain ⟨A2, c2, rfl⟩ := ho.out.slice
      obtain ⟨hc1, hc2⟩ := own_caps ho.out
      have HRD := Lib.hid ho.out.rds
      by_cases h2 : 2 ≤ (intP (cyTo (natP xs) 24).1).length
      · have HSO := Lib.hid (l4Sort_calls (intP (cyTo (natP xs) 24).1).length (intP (cyTo (natP xs) 24).1) A2 c2 wr rfl (by omega) hc1 hc2 HRD.out)
        go_wp2_with fail
        refine HSO.out.mono ?_
        rintro e w2 ⟨A3, c3, ys, rfl, hperm, hsort, _, _, _, _, b2, hown⟩
        have hy := perm_sorted hperm hsort
        have o2 := hown h2
        rw [hy, ← HCY.out] at o2
        have O2 := Lib.hid (o2.weak hbl.out.size)
        have HB2 := Lib.hid (hbl.out.trans (b2.mono hbl.out.size))
        clear o2 b2 hown hy hperm hsort
        go_wp2_with fail
        go_ret
        exact ⟨_, rfl, O2.out, HB2.out⟩
      · have HSO := Lib.hid (l4Sort_small A2 (intP (cyTo (natP xs) 24).1).length c2 (by omega) wr)
        have hone : cycI xs = intP (cyTo (natP xs) 24).1 := by
          rw [HCY.out]
          refine (perm_sorted (List.Perm.refl _) (pair_small (by omega))).symm
        have O2 := Lib.hid (show Own wr w.heap.size (.slice A2 (intP (cyTo (natP xs) 24).1).length c2) (cycI xs) by rw [hone]; exact ho.out)
        go_wp2_with fail
        refine HSO.out.mono ?_
        rintro e w2 ⟨rfl, rfl⟩
        go_wp2_with fail
        go_ret
        exact ⟨_, rfl, O2.out, hbl.out⟩
set_option maxHeartbeats 1000000 in
theorem sPermCycles_calls (A : Option Addr) (c : Nat) (xs : List Int) (w : World) (ha : Rds w w.heap.size .i64 A xs) (hx : xs.length ≤ maxLen) :
    Calls Try.prog 6 #[.slice A xs.length c] w (GotL w (plCycles xs).1 (plCycles xs).2) := by
  have HE := Lib.hid (own_empty2 w w.heap.size (Nat.le_refl _))
  have HV := Lib.hid (sPermValid_calls A c xs w ha hx)
  rcases hb : permB xs with _ | _
  · rw [show plCycles xs = ([], false) by simp [plCycles, hb]]
    rw [hb] at HV
    clear ha hx hb
    generalize xs.length = n at *
    go_enter Try.func6, Try.ntmps6
    go_wp2_with fail
    refine HV.out.mono ?_
    rintro e w' ⟨rfl, rfl⟩
    go_wp2_with fail
    go_ret2
    exact ⟨_, rfl, HE.out, (Below.refl _ _).alloc (Nat.le_refl _) _⟩
  · rw [show plCycles xs = (cycI xs, true) by simp [plCycles, hb]]
    rw [hb] at HV
    have HC := Lib.hid (l7Cycles_calls A c xs w ha hb)
    generalize cycI xs = zs at *
    clear ha hx hb
    generalize xs.length = n at *
    go_enter Try.func6, Try.ntmps6
    go_wp2_with fail
    refine HV.out.mono ?_
    rintro e w' ⟨rfl, rfl⟩
    go_wp2_with fail
    refine HC.out.mono ?_
    rintro e w' ⟨v, rfl, o2, b2⟩
    go_wp2_with fail
    go_ret2
    exact ⟨_, rfl, o2, b2⟩
set_option maxHeartbeats 1000000 in
theorem iPermCycles_calls (A : Option Addr) (c : Nat) (xs : List Int) (w : World) (ha : Rds w w.heap.size .i64 A xs) (hx : xs.length ≤ maxLen) :
    Calls Try.prog 5 #[.slice A xs.length c] w (GotL w (plCycles xs).1 (plCycles xs).2) := by
  have HF := Lib.hid (permFrom_calls A c xs w ha hx)
  have HI := Lib.hid (pmInfoL (pL xs) (pL_len xs))
  have HSZ := Lib.hid (show (VL (pL xs)).size = 24 by rw [VL_size, pL_len])
  have HALL := Lib.hid (VL_all (pL xs))
  rcases hp : permB xs with _ | _
  · rw [show plCycles xs = ([], false) by simp [plCycles, hp]]
    rw [hp] at HF
    clear ha hx hp
    generalize xs.length = n at *
    generalize VL (pL xs) = V at *
    go_enter Try.func5, Try.ntmps5
    go_wp2_with fail
    refine HF.out.mono ?_
    rintro e w1 ⟨rfl, b1⟩
    have HN := Lib.hid (Blk.new w1 36 (VL z24))
    have HB := Lib.hid (b1.alloc b1.size (.cells (VL z24) 36))
    have hw1 := b1.size
    clear b1
    go_wp2_with (refine wpList_store_row rfl 36 _ _ rfl w1.heap.size V rfl rfl 36 (VL z24) HN.out HI.out (by rw [HSZ.out]; rfl) HALL.out ?_)
    go_ret2
    exact ⟨_, rfl, Own.nil_ _ _, bel_row HB.out hw1⟩
  · rw [show plCycles xs = (cycI xs, true) by simp [plCycles, hp]]
    have HTU := Lib.hid (fun W => cycles_calls xs hp W)
    rw [hp] at HF
    rw [pL_yes hp] at HF HI HSZ HALL
    clear ha hx hp
    generalize xs.length = n at *
    generalize cycI xs = T at *
    generalize VL xs = V at *
    go_enter Try.func5, Try.ntmps5
    go_wp2_with fail
    refine HF.out.mono ?_
    rintro e w1 ⟨rfl, b1⟩
    have HN := Lib.hid (Blk.new w1 36 (VL z24))
    have HB := Lib.hid (bel_row (T := V) (b1.alloc b1.size (.cells (VL z24) 36)) b1.size)
    clear b1
    have HN2 := Lib.hid (show ((w1.alloc (.cells (VL z24) 36)).setRow w1.heap.size V).heap[w1.heap.size]? = some (.cells V 36 (0, 0)) from setRow_heap _ _ _ _ _ _ HN.out)
    go_wp2_with (first
      | (refine wpList_store_row rfl 36 _ _ rfl w1.heap.size V rfl rfl 36 (VL z24) HN.out HI.out (by rw [HSZ.out]; rfl) HALL.out ?_)
      | (refine wpList_load_row rfl 36 _ rfl w1.heap.size rfl 36 V (0, 0) _ HN2.out Try.underlying36 rfl HI.out ?_))
    refine (HTU.out _).mono ?_
    rintro e w2 ⟨v, rfl, o2, b2⟩
    go_wp2_with fail
    go_ret2
    exact ⟨_, rfl, o2.weak HB.out.size, HB.out.trans (b2.mono HB.out.size)⟩
end Go.Proofs.Ytakefnfhjiodnaa
