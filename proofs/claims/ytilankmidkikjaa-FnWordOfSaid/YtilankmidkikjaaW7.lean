/- The walk of promise 7: the order of places does not matter. -/
import Derived.Test.YtilankmidkikjaaC13
import Derived.Test.YtilankmidkikjaaM3
namespace Go.Proofs.Ytilankmidkikjaa
open Go.RowKit
set_option linter.unusedVariables false

theorem wof_snoc (xs : List Int) (x : Int) : wof (xs ++ [x]) = addPl (wof xs) x := by unfold wof; rw [List.foldl_append]; rfl
theorem wof_char (n : Nat) : ∀ (xs : List Int) (T : Int), xs.length = n → wof xs = some T → IsW T ∧ xs.Nodup ∧ (∀ x ∈ xs, 0 ≤ x ∧ x ≤ 23) ∧ wt T = xs.length ∧ ∀ q, 0 ≤ q → bitI T q = if q ∈ xs then 1 else 0 := by
  induction n with
  | zero =>
    intro xs T hl h
    obtain rfl := List.eq_nil_of_length_eq_zero hl
    obtain rfl : (0 : Int) = T := by simpa [wof] using h
    exact ⟨⟨by omega, by omega⟩, by simp, by simp, by decide, fun q _ => by simp [bitI]⟩
  | succ n ih =>
    intro xs T hl h
    rcases List.eq_nil_or_concat xs with rfl | ⟨L, x, rfl⟩
    · simp at hl
    · rw [List.concat_eq_append] at hl h ⊢
      rw [wof_snoc] at h
      rcases hL : wof L with _ | S
      · rw [hL] at h; simp [addPl] at h
      · rw [hL] at h
        obtain ⟨⟨s0, s1⟩, hn, hr, hw, hb⟩ := ih L S (by simpa using hl) hL
        simp only [addPl] at h
        split at h
        · rename_i hc
          obtain ⟨x0, x1, xb⟩ := hc
          obtain rfl : S + powI x = T := by simpa using h
          have hxL : x ∉ L := fun hm => by have := hb x x0; rw [if_pos hm] at this; omega
          have hra := addPl_range S x s0 s1 x0 x1 xb
          refine ⟨hra, ?_, ?_, ?_, ?_⟩
          · rw [List.nodup_append]
            exact ⟨hn, by simp, fun a ha b hbm e => by simp at hbm; subst hbm; subst e; exact hxL ha⟩
          · intro y hy
            rcases List.mem_append.1 hy with h1 | h1
            · exact hr y h1
            · simp at h1; subst h1; exact ⟨x0, x1⟩
          · rw [wt_addp S x s0 x0 x1 xb, hw]; simp
          · intro q hq
            rw [bit_add S x q s0 x0 hq xb, hb q hq]
            by_cases e : q = x
            · subst e; simp
            · simp [e]
        · simp at h
theorem wof_ex (n : Nat) : ∀ (xs : List Int), xs.length = n → xs.Nodup → (∀ x ∈ xs, 0 ≤ x ∧ x ≤ 23) → ∃ T, wof xs = some T := by
  induction n with
  | zero => intro xs hl _ _; obtain rfl := List.eq_nil_of_length_eq_zero hl; exact ⟨0, rfl⟩
  | succ n ih =>
    intro xs hl hn hr
    rcases List.eq_nil_or_concat xs with rfl | ⟨L, x, rfl⟩
    · simp at hl
    · rw [List.concat_eq_append] at hl hn hr ⊢
      rw [List.nodup_append] at hn
      obtain ⟨S, hS⟩ := ih L (by simpa using hl) hn.1 (fun y hy => hr y (by simp [hy]))
      obtain ⟨_, _, _, _, hb⟩ := wof_char n L S (by simpa using hl) hS
      have hx := hr x (by simp)
      have hxb : bitI S x = 0 := by
        rw [hb x hx.1, if_neg (fun hm => hn.2.2 x hm x (by simp) rfl)]
      exact ⟨S + powI x, by rw [wof_snoc, hS]; simp only [addPl]; rw [if_pos ⟨hx.1, hx.2, hxb⟩]⟩
theorem wof_reverse (xs : List Int) (T : Int) (h : wof xs = some T) : wof xs.reverse = some T := by
  obtain ⟨hT, hn, hr, hw, hb⟩ := wof_char _ xs T rfl h
  obtain ⟨S, hS⟩ := wof_ex _ xs.reverse rfl (List.pairwise_reverse.2 (hn.imp fun h => Ne.symm h)) (fun x hx => hr x (List.mem_reverse.1 hx))
  obtain ⟨hSw, _, _, _, hb2⟩ := wof_char _ xs.reverse S rfl hS
  rw [hS]
  congr 1
  exact word_ext S T hSw hT (fun q hq => by rw [hb q (by omega), hb2 q (by omega)]; simp)
theorem rev_step (xs : List Int) (j : Nat) (h : j < xs.length) : xs.reverse.take j ++ [xs.getD (xs.length - 1 - j) 0] = xs.reverse.take (j + 1) := by
  rw [List.take_succ_eq_append_getElem (by simpa using h), List.getElem_reverse]
  simp [List.getD_eq_getElem?_getD, List.getElem?_eq_getElem (show xs.length - 1 - j < xs.length by omega)]
theorem DrawWordOf_calls (A : Option Addr) (c : Nat) (bs : List Int) (w : World) (hr : Rds w w.heap.size .u8 A bs) (hc : bs.length ≤ c) (hm : c ≤ maxLen) (hv : ∀ i, 0 ≤ bs.getD i 0 ∧ bs.getD i 0 ≤ 255) :
    Calls Try.prog 31 #[.slice A bs.length c] w fun e w' => ∃ (v : Value) (xs : List Int), e = .returned v ∧ Own w' w.heap.size v xs ∧ xs.length ≤ 11 ∧ Below w.heap.size w w' := by
  go_enter Try.func31, Try.ntmps31
  go_wp2_with fail
  refine (l6Open_calls A c bs _ hr hc hm hv).mono ?_
  rintro e w1 ⟨g, rfl, hg, r1, b1⟩
  go_wp2_with fail
  refine (pick_calls g 0 12 _ r1 (by omega) (by omega) (by omega)).mono ?_
  rintro e w2 ⟨n, rfl, n0, n1, r2, g2⟩
  go_wp2_with fail
  refine (l91Places_calls g _ n _ r2 (by omega) (by omega) (by omega)).mono ?_
  rintro e w3 ⟨v, xs, q', rfl, o3, hl, _, _, r3, g3⟩
  go_wp2_with fail
  go_ret
  exact ⟨v, xs, rfl, o3.weak (Nat.le_trans b1.size g2.size), by omega, b1.trans ((grown_below g2 hg b1.size).trans (grown_below g3 hg (Nat.le_trans b1.size g2.size)))⟩
set_option maxHeartbeats 1000000 in
theorem walk_FnWordOf (a0 : Option Addr) (len0 cap0 : Nat) (z0 : List Int) (w : World) (w0 : IsRow .u8 w a0 len0 cap0 z0) :
    Calls Try.prog 7 #[.slice a0 len0 cap0] w fun e w' => e = .returned (.bool true) ∧ Below w.heap.size w w' := by
  obtain ⟨bs, rfl, hr, hc, hm, hv⟩ := w0.bytes
  have hm' := hm
  unfold maxLen at hm'
  by_cases hbig : 1048576 < bs.length
  · go_enter Try.func7, Try.ntmps7
    go_wp2_with fail
    go_ret
    exact ⟨rfl, Below.refl _ _⟩
  · have hbig' : bs.length ≤ 1048576 := by omega
    go_enter Try.func7, Try.ntmps7
    go_wp2_with fail
    refine (DrawWordOf_calls _ _ bs _ hr hc hm hv).mono ?_
    rintro e w1 ⟨v, xs, rfl, o1, hl, b1⟩
    obtain ⟨A1, c1, rfl⟩ := o1.slice
    rcases hw : wof xs with _ | T
    · have HW := Lib.hid hw
      clear hw
      go_wp2_with fail
      refine (iWordOf_calls _ _ xs _ o1.rds o1.len_le).mono ?_
      rintro e w1' ⟨he, rfl⟩
      rw [HW.out] at he
      simp only [resW] at he
      subst he
      go_wp2_with fail
      refine (sWordOf_calls _ _ xs _ o1.rds o1.len_le).mono ?_
      rintro e w1' ⟨he, rfl⟩
      rw [HW.out] at he
      simp only [resW] at he
      subst he
      go_wp2_with fail
      go_ret
      exact ⟨rfl, b1⟩
    · have HW := Lib.hid hw
      obtain ⟨hT, _, _, hwt, _⟩ := wof_char _ xs T rfl hw
      have HT := Lib.hid hwt
      have HV := Lib.hid (wof_reverse xs T hw)
      have HRS := Lib.hid (rev_step xs)
      have hlr : xs.reverse.length = xs.length := List.length_reverse
      generalize xs.reverse = ys at HV HRS hlr
      have HLY := Lib.hid hlr
      clear hlr
      clear hw hwt
      go_wp2_with fail
      refine (iWordOf_calls _ _ xs _ o1.rds o1.len_le).mono ?_
      rintro e w1' ⟨he, rfl⟩
      rw [HW.out] at he
      simp only [resW] at he
      subst he
      go_wp2_with fail
      refine (sWordOf_calls _ _ xs _ o1.rds o1.len_le).mono ?_
      rintro e w1' ⟨he, rfl⟩
      rw [HW.out] at he
      simp only [resW] at he
      subst he
      have HE := Lib.hid (own_empty w1 w1.heap.size (Nat.le_refl _))
      have HR := Lib.hid o1.rds
      have HB := Lib.hid b1
      clear o1 b1
      go_wp2
      go_loopw [8, 9] (fun v i wr => ∃ z : Int, -1 ≤ z ∧ z < xs.length ∧ i = .int .i64 z ∧ Hid (Own wr w1.heap.size v (ys.take (xs.length - 1 - z).toNat)) ∧ Hid (Below w1.heap.size w1 wr)) (fun _ i _ => (intOf i + 1).toNat)
      case atStart => exact ⟨(xs.length : Int) - 1, by omega, by omega, rfl, by rw [show ((xs.length : Int) - 1 - ((xs.length : Int) - 1)).toNat = 0 by omega]; exact HE, Lib.hid ((Below.refl _ _).alloc (Nat.le_refl _) _)⟩
      case round =>
        obtain ⟨z, hz0, hz1, rfl, ho, hb⟩ := hrel
        clear HE
        by_cases hlt : 0 ≤ z
        · obtain ⟨q, rfl⟩ := Int.eq_ofNat_of_zero_le hlt
          obtain ⟨b, o, rfl, _, hcl⟩ := (HR.out.below hb.out).at_ (j := q) (by omega)
          have HS := Lib.hid (HRS.out (xs.length - 1 - q) (by omega))
          rw [show xs.length - 1 - (xs.length - 1 - q) = q by omega, show xs.length - 1 - q + 1 = ((xs.length : Int) - 1 - ((q : Int) - 1)).toNat by omega, show xs.length - 1 - q = ((xs.length : Int) - 1 - (q : Int)).toNat by omega] at HS
          have hlt24 : (ys.take ((xs.length : Int) - 1 - (q : Int)).toNat).length ≤ 1048576 := by rw [List.length_take]; omega
          have hsz := hb.out.size
          generalize xs.getD q 0 = y at *
          go_wp2_with (at_builtin; refine wpList_push rfl _ _ rfl wr w1.heap.size _ _ _ _ rfl rfl (by exact ho.out) hlt24 hsz ?_; intro v2 w2 ho2 hb2 _)
          rw [HS.out] at ho2
          go_roundw
          case rel => exact ⟨(q : Int) - 1, by omega, by omega, rfl, Lib.hid ho2, Lib.hid (hb.out.trans hb2)⟩
          case measure => simp only [intOf]; omega
        · obtain rfl : z = -1 := by omega
          have ho2 := ho.out
          rw [List.take_of_length_le (by rw [HLY.out]; omega)] at ho2
          obtain ⟨A2, c2, rfl⟩ := ho2.slice
          have HO2 := Lib.hid ho2
          clear ho2 ho
          go_wp2_with fail
          refine (iWordOf_calls _ _ ys _ HO2.out.rds HO2.out.len_le).mono ?_
          rintro e w' ⟨he, rfl⟩
          rw [HV.out] at he
          simp only [resW] at he
          subst he
          go_wp2_with fail
          refine (iWordWeight_ok _ _ hT).mono ?_
          rintro e w' ⟨rfl, k, rfl⟩
          rw [HT.out]
          go_wp2_with fail
          go_ret
          exact ⟨rfl, below_drewN (HB.out.trans (hb.out.mono HB.out.size)) _⟩
end Go.Proofs.Ytilankmidkikjaa
