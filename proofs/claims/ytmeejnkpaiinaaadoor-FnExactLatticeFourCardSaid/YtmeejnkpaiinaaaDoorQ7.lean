import Derived.Test.YtmeejnkpaiinaaaDoorC27
import Derived.Test.YtmeejnkpaiinaaaDoorC28
import Derived.Test.YtmeejnkpaiinaaaDoorQ2
import Derived.Test.YtmeejnkpaiinaaaDoorQ3
import Derived.Test.YtmeejnkpaiinaaaDoorP3
import Derived.Test.YtmeejnkpaiinaaaDoorC113
import Derived.Test.YtmeejnkpaiinaaaDoorQ1
import Derived.Maps.AppendAt
import Derived.Deep.QuietTactic
import Derived.BigQuiet
import Derived.Test.YtmeejnkpaiinaaaDoorW7
/- Octads: which numbers are octads; sums of two. -/
namespace Go.Proofs.YtmeejnkpaiinaaaDoor
open Go.RowKit
set_option linter.unusedVariables false

def oIn (n : Int) : Bool := cIn n && decide (wt n = 8)
def oPair (a b : Int) : Int × Bool := if oIn a && oIn b && decide (wt (xorI a b) = 8) then (xorI a b, true) else (0, false)
theorem oIn_w {n : Int} (h : oIn n = true) : IsW n ∧ codeInB n = true ∧ wt n = 8 := by
  simp only [oIn, cIn, Bool.and_eq_true, decide_eq_true_eq] at h
  exact ⟨(wordB_iff n).1 h.1.1, h.1.2, h.2⟩
theorem oIn_of {n : Int} (h : IsW n) : oIn n = (decide (wt n = 8) && codeInB n) := by
  simp only [oIn, cIn, (wordB_iff n).2 h, Bool.true_and]
  exact Bool.and_comm _ _
theorem word_isOctad (n : Int) (w : World) (hn : IsW n) (hT : Tab3 w) :
    Calls Tryd.prog 60 #[.int .u32 n] w fun e w' => e = .returned (.bool (oIn n)) ∧ Below w.heap.size w w' := by
  rw [oIn_of hn]
  by_cases h8 : wt n = 8
  · have hx : (decide (wt n = 8) && codeInB n) = codeInB n := by simp [h8]
    rw [hx]
    have HW := Lib.hid h8
    clear h8 hx
    go_enter Tryd.func60, Tryd.ntmps60
    go_wp2_with (first
      | (go_at_call 62; refine (word_weight _ _ hn.1 hn.2).mono ?_; rintro e w' ⟨he, k, rfl⟩; rw [HW.out] at he; subst he)
      | (go_at_call 47; refine (word_inCode _ _ hn (hT.below (below_drewN (Below.refl _ _) _) hT.lt)).mono ?_; rintro e w1 ⟨rfl, b1⟩))
    go_ret
    exact ⟨rfl, (below_drewN (Below.refl w.heap.size w) _).trans b1⟩
  · have hx : (decide (wt n = 8) && codeInB n) = false := by simp [h8]
    rw [hx]
    have h81 : (wt n == 8) = false := by simpa using h8
    generalize hq : wt n = q at *
    have HW := Lib.hid hq
    clear h8 hx hq
    go_enter Tryd.func60, Tryd.ntmps60
    go_wp2_with (go_at_call 62; refine (word_weight _ _ hn.1 hn.2).mono ?_; rintro e w' ⟨he, k, rfl⟩; rw [HW.out] at he; subst he)
    go_ret
    exact ⟨rfl, below_drewN (Below.refl w.heap.size w) _⟩
theorem octadFrom_yes (n : Int) (w : World) (h : oIn n = true) (hT : Tab3 w) :
    Calls Tryd.prog 43 #[.int .i64 n] w fun e w' => e = .returned (.tuple #[.int .u32 n, .bool true]) ∧ Below w.heap.size w w' := by
  have hn := (oIn_w h).1
  have H := Lib.hid h
  clear h
  go_enter Tryd.func43, Tryd.ntmps43
  go_wp2_with (first
    | (go_at_call 36; refine (wordFrom_ok _ _ hn.1 hn.2).mono ?_; rintro e w' ⟨rfl, rfl⟩)
    | (go_at_call 60; refine (word_isOctad _ _ hn hT).mono ?_; rintro e w1 ⟨he, b1⟩; rw [H.out] at he; subst he))
  go_ret2
  exact ⟨rfl, b1⟩
theorem octadFrom_no (n : Int) (w : World) (h : oIn n = false) (hT : Tab3 w) :
    Calls Tryd.prog 43 #[.int .i64 n] w fun e w' => e = .returned (.tuple #[.int .u32 0, .bool false]) ∧ Below w.heap.size w w' := by
  rcases hb : wordB n with _ | _
  · have hn := (wordB_no n).1 hb
    clear hb h
    go_enter Tryd.func43, Tryd.ntmps43
    go_wp2_with (go_at_call 36; refine (wordFrom_no _ _ hn).mono ?_; rintro e w' ⟨rfl, rfl⟩)
    go_ret2
    exact ⟨rfl, Below.refl _ _⟩
  · have hn := (wordB_iff n).1 hb
    have H := Lib.hid h
    clear h hb
    go_enter Tryd.func43, Tryd.ntmps43
    go_wp2_with (first
      | (go_at_call 36; refine (wordFrom_ok _ _ hn.1 hn.2).mono ?_; rintro e w' ⟨rfl, rfl⟩)
      | (go_at_call 60; refine (word_isOctad _ _ hn hT).mono ?_; rintro e w1 ⟨he, b1⟩; rw [H.out] at he; subst he))
    go_ret2
    exact ⟨rfl, b1⟩
theorem sOctadIn_calls (n : Int) (w : World) :
    Calls Tryd.prog 38 #[.int .i64 n] w fun e w' => e = .returned (.bool (oIn n)) ∧ Below w.heap.size w w' := by
  rcases hc : cIn n with _ | _
  · rw [show oIn n = false by simp [oIn, hc]]
    have HC := Lib.hid hc
    clear hc
    go_enter Tryd.func38, Tryd.ntmps38
    go_wp2_with (go_at_call 46; refine (sCodeIn_calls _ _).mono ?_; rintro e w1 ⟨he, b1⟩; rw [HC.out] at he; subst he)
    go_ret
    exact ⟨rfl, b1⟩
  · have hx : oIn n = (wt n == 8) := by
      simp only [oIn, hc, Bool.true_and]
      by_cases h : wt n = 8 <;> simp [h]
    rw [hx]
    have HC := Lib.hid hc
    clear hc hx
    go_enter Tryd.func38, Tryd.ntmps38
    go_wp2_with (first
      | (go_at_call 46; refine (sCodeIn_calls _ _).mono ?_; rintro e w1 ⟨he, b1⟩; rw [HC.out] at he; subst he)
      | (go_at_call 41; refine (l1Weight_calls _ _).mono ?_; rintro e w' ⟨rfl, rfl⟩))
    go_ret
    exact ⟨rfl, b1⟩
end Go.Proofs.YtmeejnkpaiinaaaDoor
/- All octads in a row, of the model: gathered, sorted by halves. -/
namespace Go.Proofs.YtmeejnkpaiinaaaDoor
open Go.RowKit
attribute [local irreducible] octS
set_option linter.unusedVariables false

end Go.Proofs.YtmeejnkpaiinaaaDoor
/- Octads of the model: through places, counted, met, dodecads. -/
namespace Go.Proofs.YtmeejnkpaiinaaaDoor
open Go.RowKit
set_option linter.unusedVariables false
attribute [local irreducible] octS cN octF

theorem wof_is {xs : List Int} {t : Int} (h : wof xs = some t) : IsW t ∧ wt t = xs.length := by
  have := wof_char _ xs t rfl h
  exact ⟨this.1, this.2.2.2.1⟩
def oThrough (xs : List Int) : Int × Bool := match wof xs with
  | some t => if xs.length = 5 then ((oWith t).getD 0 0, true) else (0, false)
  | none => (0, false)
def oList (xs : List Int) : List Int × Bool := match wof xs with
  | some t => if 3 ≤ xs.length ∧ xs.length ≤ 8 then (oWith t, true) else ([], false)
  | none => ([], false)
def oCount (a b : Int) : Int × Bool := if wordB a && wordB b then (((octS.countP (oC a b) : Nat) : Int), true) else (0, false)
def oMeet (w : Int) : List Int × Bool := if oIn w then (cnt9 w octS, true) else ([], false)
def oDod (w : Int) : Int × Int × Bool := if cIn w && decide (wt w = 12) then (leastD w, xorI w (leastD w), true) else (0, 0, false)
theorem oWith_five {t : Int} (h : IsW t) (h5 : wt t = 5) : (oWith t).length = 1 := by
  obtain ⟨T, rfl⟩ := Int.eq_ofNat_of_zero_le h.1
  rw [oWith_thr]
  rw [wt_pop] at h5
  have := h.2
  exact thr5 T (by omega) (by omega)
theorem and_i64w (x W : Int) (hx : 0 ≤ x ∧ x ≤ 16777215) (hW : IsW W) : bits .and .i64 x W = andI x W := and_i64 x W hx.1 (by omega) hW.1 (by have := hW.2; omega)
/-- An append of one element, with where the new slice lies. -/
theorem wpList_pushAt {ops : Array Oper} {rest : List Oper} {o : Oper} {a : Act} {Q : Exit → Act → World → Prop} (hgd : o.guard = none) (s y : Operand)
    (ho : o.op = .call { callee := .builtin .append, args := #[s, y], argTypes := #[22, 22] })
    (w : World) (B : Nat) (v : Value) (xs : List Int) (x : Int) (c : Nat) (hs : a.eval s = v) (hy : a.eval y = .slice (some ⟨w.heap.size, 0, none⟩) 1 c)
    (hown : Own w B v xs) (hlen : xs.length ≤ 1048576) (hB : B ≤ w.heap.size)
    (h : ∀ v' w', Own w' B v' (xs ++ [x]) → Below B w w' → w.grownBy w' v.ownBlock → (∀ k, v'.ownBlock = some k → v.ownBlock = some k ∨ w.heap.size ≤ k) → wpList Tryd.prog ops Q rest (a.put o.dst v') w') :
    wpList Tryd.prog ops Q (o :: rest) a (w.alloc (.cells #[.int .i64 x] 3)) := by
  obtain ⟨i0, hi, hz0, hz1, hz2⟩ := info_parts intRow
  refine wpList_append_own_at _ hgd s y 22 ho B 3 i0 (.int .i64 0) 1 8 Tryd.underlying22 hi hz0 hz1 hz2 rfl (by decide) v xs.length (vals .i64 xs) hs
    (World.ownsRow.alloc hown _) ⟨w.heap.size, 0, none⟩ 1 c [.int .i64 x] hy rfl ?_ ?_ (by unfold maxLen; omega) (by omega) (by simp; omega) ?_
  · intro j u hj
    match j, hj with
    | 0, hj => simp at hj; subst hj; simp [Addr.add]
  · intro u hu; simp at hu; subst hu; rfl
  · intro v' w' h1 h2 _ h3
    have hg : w.grownBy w' v.ownBlock := grown_trans (World.grownBy_alloc w _ _) h2
    refine h v' w' ?_ ((Below.refl B w).grown hg hB (own_row_ge hown)) hg ?_
    · unfold Own
      rw [vals_append, show vals .i64 [x] = [Value.int .i64 x] from rfl]
      simpa using h1
    · intro k hk
      rcases h3 with h3 | h3
      · exact .inl (h3 ▸ hk)
      · rw [h3] at hk
        simp at hk
        exact .inr (by omega)
theorem Rds.apart {w w' : World} {B : Nat} {k : IntKind} {A : Option Addr} {xs : List Int} (h : Rds w B k A xs) {row : Option Nat} (hg : w.grownBy w' row) (hB : B ≤ w.heap.size) (hr : ∀ ad, A = some ad → row ≠ some ad.block) : Rds w' B k A xs := by
  rcases h with rfl | ⟨b, o, h1, h2, h3⟩
  · exact .inl rfl
  · exact .inr ⟨b, o, h1, h2, fun j hj => (World.cell?_of_block (hg.block b (by omega) (fun e => hr _ h1 e.symm))).trans (h3 j hj)⟩
theorem Rds.setFar {w : World} {B : Nat} {k : IntKind} {A : Option Addr} {xs : List Int} (h : Rds w B k A xs) {p : Addr} (hr : ∀ ad, A = some ad → p.block ≠ ad.block) (u : Value) : Rds (w.setCell p u) B k A xs := by
  rcases h with rfl | ⟨b, o, h1, h2, h3⟩
  · exact .inl rfl
  · exact .inr ⟨b, o, h1, h2, fun j hj => (World.cell?_setCell_other w p _ u (fun e => hr _ h1 (by rw [e]))).trans (h3 j hj)⟩
end Go.Proofs.YtmeejnkpaiinaaaDoor