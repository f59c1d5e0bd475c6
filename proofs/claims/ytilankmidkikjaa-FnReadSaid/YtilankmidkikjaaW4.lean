/- The walks of the promises on texts. -/
import Derived.Test.YtilankmidkikjaaM5
import Derived.Test.YtilankmidkikjaaW3
namespace Go.Proofs.Ytilankmidkikjaa
open Go.RowKit
set_option linter.unusedVariables false

set_option maxHeartbeats 1000000 in
theorem walk_FnText (a0 : Option Addr) (len0 cap0 : Nat) (z0 : List Int) (w : World) (w0 : IsRow .u8 w a0 len0 cap0 z0) :
    Calls Try.prog 8 #[.slice a0 len0 cap0] w fun e w' => e = .returned (.bool true) ∧ Below w.heap.size w w' := by
  obtain ⟨bs, rfl, hr, hc, hm, hv⟩ := w0.bytes
  have hm' := hm
  unfold maxLen at hm'
  by_cases hbig : 1048576 < bs.length
  · go_enter Try.func8, Try.ntmps8
    go_wp2_with fail
    go_ret
    exact ⟨rfl, Below.refl _ _⟩
  · have hbig' : bs.length ≤ 1048576 := by omega
    go_enter Try.func8, Try.ntmps8
    go_wp2_with fail
    refine (DrawWordText_calls _ _ bs _ hr hc hm hv).mono ?_
    rintro e w1 ⟨a, rfl, a0, a1, b1⟩
    rcases isW_or a with h | h
    · have hs : (txt a).size = 27 := pre_size a 27
      have hs1 : (((txt a).size : Int) == 27) = true := by rw [hs]; rfl
      have HS := Lib.hid hs
      clear hs
      go_wp2_with fail
      refine (iWordText_ok _ _ h).mono ?_
      rintro e w2 ⟨rfl, b2⟩
      go_wp2_with fail
      refine (sWordText_ok _ _ h).mono ?_
      rintro e w' ⟨rfl, rfl⟩
      go_wp2_with fail
      refine (iWordRead_calls _ _ (by rw [HS.out]; unfold maxLen; omega)).mono ?_
      rintro e w' ⟨he, rfl⟩
      rw [rdW_txt a h] at he
      simp only [resW] at he
      subst he
      go_wp2_with fail
      go_ret
      exact ⟨rfl, b1.trans (b2.mono b1.size)⟩
    · go_wp2_with fail
      refine (iWordText_no _ _ h).mono ?_
      rintro e w' ⟨rfl, rfl⟩
      go_wp2_with fail
      refine (sWordText_no _ _ h).mono ?_
      rintro e w' ⟨rfl, rfl⟩
      go_wp2_with fail
      go_ret
      exact ⟨rfl, b1⟩
theorem strInfo : (Try.prog.info? 9).map (fun i => (i.zero, i.size, i.bytes)) = some (some (.string ⟨#[]⟩), 1, 16) := by kernel_rfl
/-- One of three texts, drawn. -/
theorem of_calls (g q b : Nat) (x y z : ByteArray) (w : World) (h : Rd w g q) (hq : q ≤ 1000000) (hb : w.heap[b]? = some (.cells #[.string x, .string y, .string z] 9 (0, 0))) (hne : b ≠ g) :
    Calls Try.prog 62 #[.pointer (some ⟨g, 0, none⟩), .slice (some ⟨b, 0, none⟩) 3 3] w fun e w' => ∃ s, (s = x ∨ s = y ∨ s = z) ∧ e = .returned (.string s) ∧ w.grownBy w' (some g) := by
  have hlt : b < w.heap.size := (Array.getElem?_eq_some_iff.1 hb).1
  go_enter Try.func62, Try.ntmps62
  go_wp2_with fail
  refine (pick_calls g q 3 _ h (by omega) (by omega) (by omega)).mono ?_
  rintro e w1 ⟨v, rfl, v0, v1, r1, g1⟩
  have hb1 : w1.heap[b]? = some (.cells #[.string x, .string y, .string z] 9 (0, 0)) := (g1.block b hlt (by simpa using hne)).trans hb
  have c0 : w1.cell? ⟨b, 0, none⟩ = some (.string x) := by rw [Lib.cell_of_heap hb1]; rfl
  have c1 : w1.cell? ⟨b, 1, none⟩ = some (.string y) := by rw [Lib.cell_of_heap hb1]; rfl
  have c2 : w1.cell? ⟨b, 2, none⟩ = some (.string z) := by rw [Lib.cell_of_heap hb1]; rfl
  have hv : v = 0 ∨ v = 1 ∨ v = 2 := by omega
  clear v0 v1 hb hb1
  rcases hv with rfl | rfl | rfl
  all_goals
    go_wp2_with fail
    go_ret
    first
      | exact ⟨x, .inl rfl, rfl, g1⟩
      | exact ⟨y, .inr (.inl rfl), rfl, g1⟩
      | exact ⟨z, .inr (.inr rfl), rfl, g1⟩
theorem DrawWordRead_calls (A : Option Addr) (c : Nat) (bs : List Int) (w : World) (hr : Rds w w.heap.size .u8 A bs) (hc : bs.length ≤ c) (hm : c ≤ maxLen) (hv : ∀ i, 0 ≤ bs.getD i 0 ∧ bs.getD i 0 ≤ 255) :
    Calls Try.prog 38 #[.slice A bs.length c] w fun e w' => ∃ s : ByteArray, e = .returned (.string s) ∧ s.size ≤ 28 ∧ Below w.heap.size w w' := by
  go_enter Try.func38, Try.ntmps38
  go_wp2_with fail
  refine (l6Open_calls A c bs _ hr hc hm hv).mono ?_
  rintro e w1 ⟨g, rfl, hg, r1, b1⟩
  go_wp2_with fail
  refine (l91Word_calls g 0 _ r1 (by omega)).mono ?_
  rintro e w2 ⟨a, q1, rfl, a0, a1, hq1, r2, g2⟩
  have hb2 := b1.trans (grown_below g2 hg b1.size)
  go_wp2_with fail
  rcases isW_or a with h | h
  · have hs : (txt a).size = 27 := pre_size a 27
    have HS := Lib.hid hs
    clear hs
    refine (sWordText_ok _ _ h).mono ?_
    rintro e w' ⟨rfl, rfl⟩
    go_wp2_with fail
    refine (pick_calls g q1 6 _ r2 (by omega) (by omega) (by omega)).mono ?_
    rintro e w3 ⟨v, rfl, v0, v1, r3, g3⟩
    have hb3 := hb2.trans (grown_below g3 hg hb2.size)
    by_cases hv0 : 0 < v
    · go_wp2_with fail
      go_ret
      exact ⟨_, rfl, by rw [HS.out]; omega, hb3⟩
    · go_wp2_with fail
      have hb0 := heap_alloc_new w3 (.cells #[.string ⟨#[]⟩, .string ⟨#[120]⟩, .string ⟨#[46]⟩] 9)
      refine (of_calls g _ w3.heap.size _ _ _ _ (r3.below ((Below.refl _ _).alloc (Nat.le_refl _) _)) (by omega) hb0 (by have := r3.lt; omega)).mono ?_
      rintro e w5 ⟨s, hx, rfl, g5⟩
      have hs1 : s.size ≤ 1 := by rcases hx with rfl | rfl | rfl <;> decide
      have hadd : ∀ w, (Op.stringOp .add (txt a) s).run Try.prog w = .ok (.string ((txt a) ++ s)) w := fun w => run_string_add_sum w _ _ (by have := HS.out; omega)
      have hsz : ((txt a) ++ s).size ≤ 28 := by rw [ByteArray.size_append]; have := HS.out; omega
      have HZ := Lib.hid hsz
      clear hsz hx
      go_wp2_with fail
      go_ret
      exact ⟨_, rfl, HZ.out, hb3.trans (((Below.refl _ _).alloc hb3.size _).trans (grown_below g5 hg (by have := hb3.size; simp; omega)))⟩
  · refine (sWordText_no _ _ h).mono ?_
    rintro e w' ⟨rfl, rfl⟩
    go_wp2_with fail
    have hb0 := heap_alloc_new w2 (.cells #[.string ⟨#[]⟩, .string ⟨#[120]⟩, .string ⟨#[46]⟩] 9)
    refine (of_calls g _ w2.heap.size _ _ _ _ (r2.below ((Below.refl _ _).alloc (Nat.le_refl _) _)) (by omega) hb0 (by have := r2.lt; omega)).mono ?_
    rintro e w5 ⟨s, hx, rfl, g5⟩
    have hs1 : s.size ≤ 1 := by rcases hx with rfl | rfl | rfl <;> decide
    have hadd : ∀ w, (Op.stringOp .add (⟨#[]⟩ : ByteArray) s).run Try.prog w = .ok (.string ((⟨#[]⟩ : ByteArray) ++ s)) w := fun w => run_string_add_sum w _ _ (by have : (⟨#[]⟩ : ByteArray).size = 0 := rfl; omega)
    have hsz : ((⟨#[]⟩ : ByteArray) ++ s).size ≤ 28 := by rw [ByteArray.size_append]; have : (⟨#[]⟩ : ByteArray).size = 0 := rfl; omega
    have HZ := Lib.hid hsz
    clear hsz hx
    go_wp2_with fail
    go_ret
    exact ⟨_, rfl, HZ.out, hb2.trans (((Below.refl _ _).alloc hb2.size _).trans (grown_below g5 hg (by have := hb2.size; simp; omega)))⟩
set_option maxHeartbeats 1000000 in
theorem walk_FnRead (a0 : Option Addr) (len0 cap0 : Nat) (z0 : List Int) (w : World) (w0 : IsRow .u8 w a0 len0 cap0 z0) :
    Calls Try.prog 9 #[.slice a0 len0 cap0] w fun e w' => e = .returned (.bool true) ∧ Below w.heap.size w w' := by
  obtain ⟨bs, rfl, hr, hc, hm, hv⟩ := w0.bytes
  have hm' := hm
  unfold maxLen at hm'
  by_cases hbig : 1048576 < bs.length
  · go_enter Try.func9, Try.ntmps9
    go_wp2_with fail
    go_ret
    exact ⟨rfl, Below.refl _ _⟩
  · have hbig' : bs.length ≤ 1048576 := by omega
    go_enter Try.func9, Try.ntmps9
    go_wp2_with fail
    refine (DrawWordRead_calls _ _ bs _ hr hc hm hv).mono ?_
    rintro e w1 ⟨s, rfl, hsz, b1⟩
    have hsm : s.size ≤ maxLen := by unfold maxLen; omega
    rcases hw : rdW s with _ | t
    · have HW := Lib.hid hw
      clear hw
      go_wp2_with fail
      refine (iWordRead_calls s _ hsm).mono ?_
      rintro e w' ⟨he, rfl⟩
      rw [HW.out] at he
      simp only [resW] at he
      subst he
      go_wp2_with fail
      refine (sWordRead_calls s _ hsm).mono ?_
      rintro e w' ⟨he, rfl⟩
      rw [HW.out] at he
      simp only [resW] at he
      subst he
      go_wp2_with fail
      go_ret
      exact ⟨rfl, b1⟩
    · obtain ⟨rfl, ht, _⟩ := txt_of_rdW s t hw
      have HW := Lib.hid hw
      clear hw
      go_wp2_with fail
      refine (iWordRead_calls _ _ hsm).mono ?_
      rintro e w' ⟨he, rfl⟩
      rw [HW.out] at he
      simp only [resW] at he
      subst he
      go_wp2_with fail
      refine (sWordRead_calls _ _ hsm).mono ?_
      rintro e w' ⟨he, rfl⟩
      rw [HW.out] at he
      simp only [resW] at he
      subst he
      go_wp2_with fail
      refine (iWordText_ok _ _ ht).mono ?_
      rintro e w2 ⟨rfl, b2⟩
      go_wp2_with fail
      go_ret
      exact ⟨rfl, b1.trans (b2.mono b1.size)⟩
end Go.Proofs.Ytilankmidkikjaa
