/- Cycles, of both sides. -/
import Derived.Test.YtakefnfhjiodnaaC105
import Derived.Test.YtakefnfhjiodnaaC106
import Derived.Test.YtakefnfhjiodnaaM34
import Derived.Test.YtakefnfhjiodnaaC44
import Derived.Test.YtakefnfhjiodnaaC113
namespace Go.Proofs.Ytakefnfhjiodnaa
open Go.RowKit
set_option linter.unusedVariables false
attribute [local irreducible] cN syn

theorem bitI_tb (s k : Nat) : (bitI (s : Int) (k : Int) == 1) = s.testBit k := by
  rw [bitI_nat]
  cases s.testBit k <;> rfl
theorem xorI_pow (s q : Nat) : xorI (s : Int) (powI (q : Int)) = ((s ^^^ 2 ^ q : Nat) : Int) := by
  unfold xorI powI
  have e2 : ((2 : Int) ^ ((q : Nat) : Int).toNat).toNat = 2 ^ q := by
    rw [Int.toNat_natCast, Int.toNat_pow_of_nonneg (by omega)]
    rfl
  rw [e2, Int.toNat_natCast]
theorem intP_snoc (L : List Nat) (x : Nat) : intP (L ++ [x]) = intP L ++ [(x : Int)] := by simp [intP]
theorem perm_sorted {xs ys : List Int} (hp : ys.Perm xs) (hs : ys.Pairwise (· ≤ ·)) : ys = xs.mergeSort fun x y => decide (x ≤ y) := by
  have h1 := (List.mergeSort_perm xs (fun x y => decide (x ≤ y)))
  have h2 := List.pairwise_mergeSort (le := fun x y : Int => decide (x ≤ y)) (fun a b c h1 h2 => by simp at *; omega) (fun a b => by simp; omega) xs
  refine List.Perm.eq_of_pairwise (le := fun x y : Int => x ≤ y) (fun a b _ _ h1 h2 => by omega) hs (h2.imp fun h => by simpa using h) (hp.trans h1.symm)
theorem own_blkL' {A : World} {B : Nat} {v : Value} {xs : List Int} (h : Own A B v xs) : ∀ g, v.ownBlock = some g → B ≤ g := by
  intro g hg
  rcases h.2 with ⟨h1, _⟩ | ⟨b, cap, cur, h1, h2, h3, h4⟩
  · rw [h1] at hg; cases hg
  · rw [h1] at hg; cases hg; exact h2
set_option maxRecDepth 100000 in
set_option maxHeartbeats 2000000 in
theorem cycles_calls (xs : List Int) (hp : permB xs = true) (w : World) :
    Calls Try.prog 13 #[.agg (VL xs)] w fun e w' => ∃ v, e = .returned v ∧ Own w' w.heap.size v (cycI xs) ∧ Below w.heap.size w w' := by
  obtain ⟨hP, _⟩ := permB_perm hp
  have HAT := Lib.hid (fun k hk => permB_at hp k hk)
  have HCX := Lib.hid (fun (W : World) g t (h : W.heap[g]? = some (Obj.cells (VL xs) t (0, 0))) (p : Nat) (hk : p < 24) => VL_at (j := p) xs (by rw [permB_len hp]; exact hk) h)
  have HCL := Lib.hid (fun k hk => cyTo_lt hP k hk)
  have HCN := Lib.hid (fun k hk => cyTo_len hP k hk)
  have HSE := Lib.hid (fun k hb => cyTo_seen_succ (natP xs) k hb)
  have HNE := Lib.hid (fun k hk hb => cyTo_new_succ hP k hk hb)
  have HOR := Lib.hid (fun k hk => ord_spec hP k hk)
  have HWL := Lib.hid (fun k hk m => wkS_lt hP (cyTo (natP xs) k).2 k hk (cyTo_lt hP k (by omega)) m)
  have HWN := Lib.hid (fun k hk hb m hm => wkS_new hP (cyTo (natP xs) k).2 k hk (cyTo_whole hP k (by omega)) hb m hm)
  have HWO := Lib.hid (fun k hk hb => wkS_old hP (cyTo (natP xs) k).2 k hk (cyTo_whole hP k (by omega)) hb)
  have HIT := Lib.hid (fun m k hk => itN_lt hP m k hk)
  have HP0 := Lib.hid (heap_alloc_new w (.cells (VL xs) 36))
  have HB0 := Lib.hid ((Below.refl w.heap.size w).alloc (Nat.le_refl _) (.cells (VL xs) 36))
  have HPOS := Lib.hid (show 0 < (cyTo (natP xs) 24).1.length from rawC_pos hP)
  have HCY := Lib.hid (show cycI xs = (intP (cyTo (natP xs) 24).1).mergeSort fun x y => decide (x ≤ y) from rfl)
  obtain ⟨VX, hVX⟩ : ∃ V, VL xs = V := ⟨_, rfl⟩
  rw [hVX] at HCX HP0 HB0 ⊢
  clear hVX hP hp
  go_enter Try.func13, Try.ntmps13
  go_wp2_with fail
  go_loopw [3, 4, 8] (fun v f i wr => ∃ k : Nat, k ≤ 24 ∧ i = .int .i64 k ∧ f = .int .u32 (((cyTo (natP xs) k).2 : Nat) : Int) ∧ Hid (Own wr (w.heap.size + 1) v (intP (cyTo (natP xs) k).1)) ∧ Hid (wr.heap[w.heap.size]? = some (.cells VX 36 (0, 0))) ∧ Hid (Below w.heap.size w wr)) (fun _ _ i _ => 24 - (intOf i).toNat)
  case atStart => exact ⟨0, by omega, rfl, rfl, Lib.hid (Own.nil_ _ _), HP0, HB0⟩
  case round =>
    obtain ⟨k, hk, rfl, rfl, ho, hpp, hbl⟩ := hrel
    by_cases hlt : k < 24
    · have hk1 : (0 : Int) ≤ (k : Int) := by omega
      have hk2 : (k : Int) < 24 := by omega
      have hsl := HCL.out k hk
      have hs1 : (((cyTo (natP xs) k).2 : Nat) : Int) ≤ 16777215 := by omega
      have hbt := bitI_tb (cyTo (natP xs) k).2 k
      cases hb : (cyTo (natP xs) k).2.testBit k
      · have HNEW := Lib.hid (HNE.out k hlt hb)
        obtain ⟨_, ho1, ho2, _⟩ := HOR.out k hlt
        have HW := Lib.hid (fun m hm => HWN.out k hlt hb m hm)
        have HO := Lib.hid (HWO.out k hlt hb)
        have HL := Lib.hid (fun m => HWL.out k hlt m)
        have HLN := Lib.hid (HCN.out k hk)
        have HITK := Lib.hid (fun m => HIT.out m k hlt)
        rw [hb] at hbt
        have HBT := Lib.hid hbt
        have HS0 := Lib.hid (show wkS (natP xs) (cyTo (natP xs) k).2 k 0 = (cyTo (natP xs) k).2 from rfl)
        have HSS := Lib.hid (fun m => show wkS (natP xs) (cyTo (natP xs) k).2 k (m + 1) = wkS (natP xs) (cyTo (natP xs) k).2 k m ^^^ 2 ^ itN (natP xs) m k from rfl)
        have HIS := Lib.hid (fun m => show itN (natP xs) (m + 1) k = (natP xs).getD (itN (natP xs) m k) 0 from rfl)
        have HI0 := Lib.hid (show itN (natP xs) 0 k = k from rfl)
        clear hbt hb
        obtain ⟨WK, hWK⟩ : ∃ f : Nat → Nat, wkS (natP xs) (cyTo (natP xs) k).2 k = f := ⟨_, rfl⟩
        obtain ⟨IT, hIT⟩ : ∃ f : Nat → Nat, (fun m => itN (natP xs) m k) = f := ⟨_, rfl⟩
        have hITm : ∀ m, itN (natP xs) m k = IT m := fun m => by rw [← hIT]
        simp only [hWK, hITm] at HW HO HL HITK HS0 HSS HIS HI0 HNEW
        generalize ordI (natP xs) k = d at *
        rw [← HS0.out] at hs1 HBT ⊢
        go_wp2_with (go_at_call 26; refine (word_has _ _ _ (by omega) hs1 hk1 (by omega)).mono ?_; rintro e w' ⟨he, rfl⟩; rw [HBT.out] at he; subst he)
        go_loopw [4, 6, 7] (fun f n pl w2 => ∃ m : Nat, m ≤ d ∧ f = .int .u32 ((WK m : Nat) : Int) ∧ n = .int .i64 m ∧ pl = .int .i64 ((IT m : Nat) : Int) ∧ wr = w2) (fun _ n _ _ => d - (intOf n).toNat)
        case atStart => exact ⟨0, by omega, rfl, rfl, by rw [HI0.out], rfl⟩
        case round =>
          obtain ⟨m, hm, rfl, rfl, rfl, hww⟩ := hrel
          subst hww
          have hpl := HITK.out m
          have hl := HL.out m
          have hpl0 : (0 : Int) ≤ (IT m : Int) := by omega
          have hpl1 : (IT m : Int) < 24 := by omega
          have hl1 : (WK m : Int) ≤ 16777215 := by omega
          have hb2 := bitI_tb (WK m) (IT m)
          by_cases hmd : m < d
          · rw [HW.out m hmd] at hb2
            have HB2 := Lib.hid hb2
            have hcx := HCX.out wr _ _ hpp.out (IT m) hpl
            rw [(HAT.out (IT m) hpl).1, ← HIS.out] at hcx
            have HXP := Lib.hid (xorI_pow (WK m) (IT m))
            rw [← HSS.out] at HXP
            have hpw := powI_le (IT m : Int) hpl0 (by omega)
            have hpw0 := powI_pos (IT m : Int)
            clear hb2
            go_wp2_with (first
              | (go_at_call 26; refine (word_has _ _ _ (by omega) hl1 hpl0 (by omega)).mono ?_; rintro e w' ⟨he, rfl⟩; rw [HB2.out] at he; subst he)
              | (go_at_call 28; refine (wordAt_calls _ _ hpl0 (by omega)).mono ?_; rintro e w' ⟨rfl, rfl⟩)
              | (go_at_call 27; refine (word_add _ _ _ (by omega) hl1 (by omega) (by omega)).mono ?_; rintro e w' ⟨he, rfl⟩; rw [HXP.out] at he; subst he))
            go_roundw
            case rel => exact ⟨m + 1, by omega, rfl, by go_num, rfl, by first | exact rfl | trivial⟩
            case measure => simp [intOf]; omega
          · obtain rfl : m = d := by omega
            rw [HO.out] at hb2
            have HB2 := Lib.hid hb2
            clear hb2
            have hlen : (intP (cyTo (natP xs) k).1).length ≤ 24 := by rw [intP_len]; have := HLN.out; omega
            have hsz := hbl.out.size
            have hsl2 : w.heap.size < wr.heap.size := (Array.getElem?_eq_some_iff.1 hpp.out).1
            go_wp2_with (first
              | (go_at_call 26; refine (word_has _ _ _ (by omega) hl1 hpl0 (by omega)).mono ?_; rintro e w' ⟨he, rfl⟩; rw [HB2.out] at he; subst he)
              | (at_builtin; refine wpList_push rfl _ _ rfl wr (w.heap.size + 1) _ _ _ _ rfl rfl (by exact ho.out) (by omega) (by omega) ?_; intro v2 w2 ho2 hb2 hg2))
            go_roundw
            case rel =>
              refine ⟨k + 1, by omega, by go_num, ?_, Lib.hid ?_, Lib.hid ?_, Lib.hid ?_⟩
              · rw [HNEW.out]
              · rw [HNEW.out, intP_snoc]; exact ho2
              · exact (hb2.block w.heap.size (by omega)).trans hpp.out
              · exact hbl.out.trans (hb2.mono (by omega))
            case measure => simp [intOf]; omega
      · have HOLD := Lib.hid (HSE.out k hb)
        rw [hb] at hbt
        have HBT := Lib.hid hbt
        clear hbt hb
        generalize (cyTo (natP xs) k) = cy at *
        go_wp2_with (go_at_call 26; refine (word_has _ _ _ (by omega) hs1 hk1 (by omega)).mono ?_; rintro e w' ⟨he, rfl⟩; rw [HBT.out] at he; subst he)
        go_roundw
        case rel =>
          refine ⟨k + 1, by omega, by go_num, ?_, Lib.hid ?_, hpp, hbl⟩
          · rw [HOLD.out]
          · rw [HOLD.out]; exact ho.out
        case measure => simp [intOf]; omega
    · obtain rfl : k = 24 := by omega
      have hlen : (intP (cyTo (natP xs) 24).1).length ≤ 4096 := by
        rw [intP_len]
        have := HCN.out 24 (Nat.le_refl _)
        omega
      have HSO := Lib.hid (sort_own2 wr (w.heap.size + 1) u3 (intP (cyTo (natP xs) 24).1) ho.out (by rw [intP_len]; exact HPOS.out) hlen)
      rw [← HCY.out] at HSO
      go_wp2_with fail
      refine HSO.out.mono ?_
      rintro e w2 ⟨rfl, o2, g2⟩
      have hsl2 : w.heap.size < wr.heap.size := (Array.getElem?_eq_some_iff.1 hpp.out).1
      have hbb := hbl.out.grown g2 hbl.out.size (fun q hq => by have := own_blkL' ho.out q hq; omega)
      have O2 := Lib.hid (o2.weak (Nat.le_succ _))
      have HB2 := Lib.hid hbb
      clear o2 g2 hbb
      go_wp2_with fail
      go_ret
      exact ⟨_, rfl, O2.out, HB2.out⟩
end Go.Proofs.Ytakefnfhjiodnaa
