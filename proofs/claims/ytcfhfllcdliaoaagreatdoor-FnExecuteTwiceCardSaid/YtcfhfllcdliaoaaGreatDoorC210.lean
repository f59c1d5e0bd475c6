/- Drawing scripts: DrawExecute. -/
import Derived.Test.YtcfhfllcdliaoaaGreatDoorQ2
import Derived.Test.YtcfhfllcdliaoaaGreatDoorQ3
import Derived.Test.YtcfhfllcdliaoaaGreatDoorW7
import Derived.Lib.Builder
namespace Go.Proofs.YtcfhfllcdliaoaaGreatDoor
open Go.RowKit
set_option linter.unusedVariables false
set_option linter.unusedSimpArgs false

def smallStr : Value → Bool
  | .string s => decide (s.size ≤ 60)
  | _ => false
theorem smallStr_at {cs : Array Value} (h : (cs.toList.all smallStr) = true) {j : Nat} (hj : j < cs.size) : ∃ s, cs[j]? = some (.string s) ∧ s.size ≤ 60 := by
  have h1 := List.all_eq_true.1 h (cs.toList[j]'(by simpa using hj)) (List.getElem_mem _)
  have h2 : cs[j]? = some (cs.toList[j]'(by simpa using hj)) := by
    rw [Array.getElem?_eq_getElem hj]
    rfl
  rw [h2]
  generalize cs.toList[j]'(by simpa using hj) = v at h1
  cases v <;> simp [smallStr] at h1
  exact ⟨_, rfl, h1⟩
theorem addS {P : Program} (a b : ByteArray) (h : a.size + b.size ≤ 1000000000) (W : World) : (Op.stringOp .add a b).run P W = .ok (.string (a ++ b)) W := run_string_add_sum W _ _ (by omega)
theorem sizeS (a b : ByteArray) : (a ++ b).size = a.size + b.size := ByteArray.size_append
set_option maxHeartbeats 1000000 in
/-- One of a few short texts, drawn. -/
theorem of_small (g q b n : Nat) (cs : Array Value) (w : World) (h : Rd w g q) (hq : q ≤ 1000000) (hb : w.heap[b]? = some (.cells cs 9 (0, 0))) (hn : cs.size = n) (h1 : 1 ≤ n) (h20 : n ≤ 1000) (hs : cs.toList.all smallStr = true) (hne : b ≠ g) :
    Calls Tryz.prog 51 #[.pointer (some ⟨g, 0, none⟩), .slice (some ⟨b, 0, none⟩) n n] w fun e w' => ∃ s, e = .returned (.string s) ∧ s.size ≤ 60 ∧ Rd w' g (q + 1) ∧ w.grownBy w' (some g) := by
  have hlt : b < w.heap.size := (Array.getElem?_eq_some_iff.1 hb).1
  have HS := Lib.hid (fun j (hj : j < n) => smallStr_at hs (j := j) (by rw [hn]; exact hj))
  have HB := Lib.hid hb
  have n0 : (1 : Int) ≤ (n : Int) := by omega
  have n1 : (n : Int) ≤ 1048576 := by omega
  clear hs hb hn
  go_enter Tryz.func51, Tryz.ntmps51
  go_wp2_with fail
  refine (pick_calls g q (n : Int) _ h (by omega) n0 n1).mono ?_
  rintro e w1 ⟨v, rfl, v0, v1, r1, g1⟩
  obtain ⟨j, rfl⟩ := Int.eq_ofNat_of_zero_le v0
  obtain ⟨s, hs1, hs2⟩ := HS.out j (by omega)
  have hb1 : w1.heap[b]? = some (.cells cs 9 (0, 0)) := (g1.block b hlt (by simpa using hne)).trans HB.out
  have c0 : w1.cell? ⟨b, j, none⟩ = some (.string s) := by rw [Lib.cell_of_heap hb1]; exact hs1
  have HR := Lib.hid r1
  have HG := Lib.hid g1
  clear hb1 hs1 r1 g1
  go_wp2_with fail
  go_ret
  exact ⟨s, rfl, hs2, HR.out, HG.out⟩
def okStr (cs : Array Value) (n : Nat) : Bool := decide (cs.size = n) && decide (1 ≤ n) && decide (n ≤ 1000) && cs.toList.all smallStr
theorem of_new (g q n : Nat) (cs : Array Value) (w : World) (h : Rd w g q) (hq : q ≤ 1000000) (hs : okStr cs n = true) :
    Calls Tryz.prog 51 #[.pointer (some ⟨g, 0, none⟩), .slice (some ⟨w.heap.size, 0, none⟩) n n] (w.alloc (.cells cs 9)) fun e w' => ∃ s, e = .returned (.string s) ∧ s.size ≤ 60 ∧ Rd w' g (q + 1) ∧ (w.alloc (.cells cs 9)).grownBy w' (some g) := by
  unfold okStr at hs
  rw [Bool.and_eq_true, Bool.and_eq_true, Bool.and_eq_true, decide_eq_true_eq, decide_eq_true_eq, decide_eq_true_eq] at hs
  exact of_small g q w.heap.size n cs _ (h.below ((Below.refl _ _).alloc (Nat.le_refl _) _)) hq (heap_alloc_new w _) hs.1.1.1 hs.1.1.2 hs.1.2 hs.2 (Nat.ne_of_gt h.lt)
theorem rd_alloc {w : World} {g q : Nat} (h : Rd w g q) (o : Obj) : Rd (w.alloc o) g q := h.below ((Below.refl _ _).alloc (Nat.le_refl _) o)
/-- The reader, and what was there. -/
structure Dr (w0 w : World) (g q : Nat) : Prop where
  rd : Rd w g q
  below : Below w0.heap.size w0 w
theorem Dr.alloc {w0 w : World} {g q : Nat} (h : Dr w0 w g q) (o : Obj) : Dr w0 (w.alloc o) g q := ⟨rd_alloc h.rd o, h.below.alloc h.below.size o⟩
theorem Dr.next {w0 w w' : World} {g q q' : Nat} (h : Dr w0 w g q) (hg : w0.heap.size ≤ g) (r : Rd w' g q') (hg' : w.grownBy w' (some g)) : Dr w0 w' g q' := ⟨r, h.below.trans (grown_below hg' hg h.below.size)⟩
set_option maxHeartbeats 4000000 in
theorem l92Line_calls (g q : Nat) (w0 w : World) (hd : Dr w0 w g q) (hg : w0.heap.size ≤ g) (hq : q ≤ 900000) :
    Calls Tryz.prog 29 #[.pointer (some ⟨g, 0, none⟩)] w fun e w' => ∃ (s : ByteArray) (q' : Nat), e = .returned (.string s) ∧ s.size ≤ 120 ∧ q' ≤ q + 3 ∧ Dr w0 w' g q' := by
  have HD := Lib.hid hd
  go_enter Tryz.func29, Tryz.ntmps29
  go_wp2_with fail
  refine (pick_calls g q 12 _ hd.rd (by omega) (by omega) (by omega)).mono ?_
  rintro e w1 ⟨v, rfl, v0, v1, r1, g1⟩
  have D1 := Lib.hid (HD.out.next hg r1 g1)
  clear r1 g1 hd HD
  rcases (by omega : (v = 0 ∨ v = 1) ∨ v = 2 ∨ v = 3 ∨ v = 4 ∨ v = 5 ∨ v = 6 ∨ 6 < v) with hv | rfl | rfl | rfl | rfl | rfl | hv
  · rcases hv with rfl | rfl
    all_goals
      go_wp2_with fail
      refine (of_new g (q + 1) _ _ _ D1.out.rd (by omega) (by kernel_rfl)).mono ?_
      rintro e w2 ⟨s1, rfl, hs1, r2, g2⟩
      have D2 := Lib.hid ((D1.out.alloc _).next hg r2 g2)
      clear r2 g2
      go_wp2_with fail
      refine (of_new g (q + 1 + 1) _ _ _ D2.out.rd (by omega) (by kernel_rfl)).mono ?_
      rintro e w3 ⟨s2, rfl, hs2, r3, g3⟩
      have D3 := Lib.hid ((D2.out.alloc _).next hg r3 g3)
      clear r3 g3
      have hadd : ∀ W : World, (Op.stringOp .add s1 s2).run Tryz.prog W = .ok (.string (s1 ++ s2)) W := fun W => addS s1 s2 (by omega) W
      go_wp2_with fail
      go_ret
      exact ⟨_, _, rfl, by rw [sizeS]; omega, by omega, D3.out⟩
  · go_wp2_with fail
    refine (of_new g (q + 1) _ _ _ D1.out.rd (by omega) (by kernel_rfl)).mono ?_
    rintro e w2 ⟨s1, rfl, hs1, r2, g2⟩
    have D2 := Lib.hid ((D1.out.alloc _).next hg r2 g2)
    clear r2 g2
    have hadd : ∀ W : World, (Op.stringOp .add (⟨#[99, 111, 100, 101, 32]⟩ : ByteArray) s1).run Tryz.prog W = .ok (.string (⟨#[99, 111, 100, 101, 32]⟩ ++ s1)) W := fun W => addS _ s1 (by show 5 + s1.size ≤ _; omega) W
    go_wp2_with fail
    go_ret
    exact ⟨_, _, rfl, by rw [sizeS]; show 5 + s1.size ≤ 120; omega, by omega, D2.out⟩
  · go_wp2_with fail
    refine (of_new g (q + 1) _ _ _ D1.out.rd (by omega) (by kernel_rfl)).mono ?_
    rintro e w2 ⟨s1, rfl, hs1, r2, g2⟩
    have D2 := Lib.hid ((D1.out.alloc _).next hg r2 g2)
    clear r2 g2
    have hadd : ∀ W : World, (Op.stringOp .add (⟨#[111, 99, 116, 97, 100, 32]⟩ : ByteArray) s1).run Tryz.prog W = .ok (.string (⟨#[111, 99, 116, 97, 100, 32]⟩ ++ s1)) W := fun W => addS _ s1 (by show 6 + s1.size ≤ _; omega) W
    go_wp2_with fail
    go_ret
    exact ⟨_, _, rfl, by rw [sizeS]; show 6 + s1.size ≤ 120; omega, by omega, D2.out⟩
  · go_wp2_with fail
    refine (of_new g (q + 1) _ _ _ D1.out.rd (by omega) (by kernel_rfl)).mono ?_
    rintro e w2 ⟨s1, rfl, hs1, r2, g2⟩
    have D2 := Lib.hid ((D1.out.alloc _).next hg r2 g2)
    clear r2 g2
    have hadd : ∀ W : World, (Op.stringOp .add (⟨#[108, 105, 110, 101, 32]⟩ : ByteArray) s1).run Tryz.prog W = .ok (.string (⟨#[108, 105, 110, 101, 32]⟩ ++ s1)) W := fun W => addS _ s1 (by show 5 + s1.size ≤ _; omega) W
    go_wp2_with fail
    go_ret
    exact ⟨_, _, rfl, by rw [sizeS]; show 5 + s1.size ≤ 120; omega, by omega, D2.out⟩
  · go_wp2_with fail
    refine (of_new g (q + 1) _ _ _ D1.out.rd (by omega) (by kernel_rfl)).mono ?_
    rintro e w2 ⟨s1, rfl, hs1, r2, g2⟩
    have D2 := Lib.hid ((D1.out.alloc _).next hg r2 g2)
    clear r2 g2
    have hadd : ∀ W : World, (Op.stringOp .add (⟨#[114, 101, 97, 100, 32]⟩ : ByteArray) s1).run Tryz.prog W = .ok (.string (⟨#[114, 101, 97, 100, 32]⟩ ++ s1)) W := fun W => addS _ s1 (by show 5 + s1.size ≤ _; omega) W
    go_wp2_with fail
    go_ret
    exact ⟨_, _, rfl, by rw [sizeS]; show 5 + s1.size ≤ 120; omega, by omega, D2.out⟩
  · go_wp2_with fail
    refine (of_new g (q + 1) _ _ _ D1.out.rd (by omega) (by kernel_rfl)).mono ?_
    rintro e w2 ⟨s1, rfl, hs1, r2, g2⟩
    have D2 := Lib.hid ((D1.out.alloc _).next hg r2 g2)
    clear r2 g2
    go_wp2_with fail
    go_ret
    exact ⟨_, _, rfl, by omega, by omega, D2.out⟩
  · have e0 : (v == 0) = false := by simp; omega
    have e1 : (v == 1) = false := by simp; omega
    have e2 : (v == 2) = false := by simp; omega
    have e3 : (v == 3) = false := by simp; omega
    have e4 : (v == 4) = false := by simp; omega
    have e5 : (v == 5) = false := by simp; omega
    have e6 : (v == 6) = false := by simp; omega
    go_wp2_with fail
    refine (of_new g (q + 1) _ _ _ D1.out.rd (by omega) (by kernel_rfl)).mono ?_
    rintro e w2 ⟨s1, rfl, hs1, r2, g2⟩
    have D2 := Lib.hid ((D1.out.alloc _).next hg r2 g2)
    clear r2 g2
    go_wp2_with fail
    go_ret
    exact ⟨_, _, rfl, by omega, by omega, D2.out⟩
end Go.Proofs.YtcfhfllcdliaoaaGreatDoor
