/- Marking lists of lists. -/
import Derived.Test.YtnfpdonlknkccacDoorC65
namespace Go.Proofs.YtnfpdonlknkccacDoor
open Go.RowKit
set_option linter.unusedVariables false

theorem Own.apart2 {w w' : World} {B : Nat} {v : Value} {xs : List Int} {row : Option Nat} (h : Own w B v xs) (hg : w.grownBy w' row) (hne : ∀ k, v.ownBlock = some k → some k ≠ row) : Own w' B v xs := by
  refine ⟨h.1, ?_⟩
  rcases h.2 with h1 | ⟨g, cap, cur, rfl, h2, h3, h4⟩
  · exact .inl h1
  · refine .inr ⟨g, cap, cur, rfl, h2, ?_, h4⟩
    rw [hg.block g (Array.getElem?_eq_some_iff.1 h3).1 (fun e => hne g rfl e)]
    exact h3

/-- Lists of lists of the call's own: the outer list in block g, row i in block gs i, all at or above block B and all apart. -/
def Rows2 (w : World) (B g : Nat) (n : Nat) (gs cs : Nat → Nat) (f : Nat → List Int) : Prop :=
  g < w.heap.size ∧ ∀ i, i < n → w.cell? ⟨g, i, none⟩ = some (.slice (some ⟨gs i, 0, none⟩) (f i).length (cs i)) ∧ Own w B (.slice (some ⟨gs i, 0, none⟩) (f i).length (cs i)) (f i) ∧ gs i ≠ g ∧ ∀ j, j < n → j ≠ i → gs j ≠ gs i
def Own2 (w : World) (B : Nat) (A : Option Addr) (L : List (List Int)) : Prop :=
  L = [] ∨ ∃ (g : Nat) (gs cs : Nat → Nat), A = some ⟨g, 0, none⟩ ∧ B ≤ g ∧ Rows2 w B g L.length gs cs fun i => L.getD i []
section
variable {w w' : World} {B : Nat} {A : Option Addr} {L : List (List Int)}
theorem Own2.rds (h : Own2 w B A L) : Rds2 w w.heap.size A L := by
  rcases h with rfl | ⟨g, gs, cs, rfl, _, hg, h⟩
  · exact Rds2.nil_
  · intro j hj
    obtain ⟨h1, h2, _⟩ := h j hj
    exact ⟨g, 0, _, _, rfl, hg, by rw [Nat.zero_add]; exact h1, h2.rds, h2.len_le⟩
theorem Rows2.below {g n : Nat} {gs cs : Nat → Nat} {f : Nat → List Int} (h : Rows2 w B g n gs cs f) (hb : Below w.heap.size w w') : Rows2 w' B g n gs cs f := by
  refine ⟨Nat.lt_of_lt_of_le h.1 hb.size, fun i hi => ?_⟩
  obtain ⟨h1, h2, h3⟩ := h.2 i hi
  exact ⟨(hb.cell (p := ⟨g, i, none⟩) h.1).trans h1, h2.below hb, h3⟩
theorem Own2.below (h : Own2 w B A L) (hb : Below w.heap.size w w') : Own2 w' B A L := by
  rcases h with rfl | ⟨g, gs, cs, rfl, h1, h2⟩
  · exact .inl rfl
  · exact .inr ⟨g, gs, cs, rfl, h1, h2.below hb⟩
theorem Own2.drewN (h : Own2 w B A L) (n : Nat) : Own2 (w.drewN n) B A L := h
/-- One row is turned; the others stand. -/
theorem Rows2.turn {g n j : Nat} {gs cs : Nat → Nat} {f : Nat → List Int} {ys : List Int} (h : Rows2 w B g n gs cs f) (hj : j < n) (hl : ys.length = (f j).length) (ho : Own w' B (.slice (some ⟨gs j, 0, none⟩) (f j).length (cs j)) ys) (hg : w.grownBy w' (some (gs j))) :
    Rows2 w' B g n gs cs (fun i => if i = j then ys else f i) := by
  refine ⟨Nat.lt_of_lt_of_le h.1 hg.size, fun i hi => ?_⟩
  obtain ⟨h1, h2, h3, h4⟩ := h.2 i hi
  have hcell : w'.cell? ⟨g, i, none⟩ = w.cell? ⟨g, i, none⟩ := World.cell?_of_block (hg.block g h.1 (fun e => (h.2 j hj).2.2.1 (by injection e with e; exact e.symm)))
  by_cases e : i = j
  · subst e
    dsimp only
    rw [if_pos rfl, hcell, hl]
    exact ⟨h1, ho, h3, h4⟩
  · dsimp only
    rw [if_neg e, hcell]
    refine ⟨h1, h2.apart2 hg fun k hk => ?_, h3, h4⟩
    simp only [Value.ownBlock, Option.some.injEq] at hk
    intro e2
    injection e2 with e2
    exact (h.2 j hj).2.2.2 i hi e (by omega)
end
set_option maxHeartbeats 400000 in
theorem markIntSS_calls (g c n : Nat) (gs cs : Nat → Nat) (f : Nat → List Int) (ns : List Nat) (k : Int) (B : Nat) (w : World) (hr : Rows2 w B g n gs cs f) (hB : B ≤ w.heap.size) (hns : ns.length = n) (hf : ∀ i, i < n → (f i).length = ns.getD i 0) (hn : n ≤ 1048576) (hx : totTo ns n ≤ 1048576) (h0 : 0 ≤ k) (h1 : k ≤ 1048576) :
    Calls Tryd.prog 23 #[.slice (some ⟨g, 0, none⟩) n c, .int .i64 k] w fun e w' => e = .returned (.int .i64 (k + (totTo ns n : Nat))) ∧ Rows2 w' B g n gs cs (fun i => if i < n then marks (k + (totTo ns i : Nat)) (ns.getD i 0) else f i) ∧ Below B w w' := by
  have HR := Lib.hid hr
  have HF := Lib.hid hf
  have HT := Lib.hid (fun i (h : i ≤ n) => show totTo ns i ≤ totTo ns n by have := totTo_le ns i (n - i); rw [show i + (n - i) = n by omega] at this; exact this)
  clear hr hf
  go_enter Tryd.func23, Tryd.ntmps23
  go_wp2_with fail
  go_loopw [1, 5] (fun q i wr => ∃ j : Nat, j ≤ n ∧ i = .int .i64 j ∧ q = .int .i64 (k + (totTo ns j : Nat)) ∧ Hid (Rows2 wr B g n gs cs (fun i => if i < j then marks (k + (totTo ns i : Nat)) (ns.getD i 0) else f i)) ∧ Hid (Below B w wr)) (fun _ i _ => n - (intOf i).toNat)
  case atStart => exact ⟨0, by omega, rfl, by simp [totTo], Lib.hid (by have := HR.out; simpa using this), Lib.hid (Below.refl _ _)⟩
  case round =>
    obtain ⟨j, hj, rfl, rfl, hrw, hbl⟩ := hrel
    by_cases hlt : j < n
    · obtain ⟨e1, o1, _, _⟩ := hrw.out.2 j hlt
      have hfj : (if j < j then marks (k + (totTo ns j : Nat)) (ns.getD j 0) else f j) = f j := if_neg (Nat.lt_irrefl j)
      dsimp only at e1 o1
      rw [hfj] at e1 o1
      have hl := HF.out j hlt
      have hj1 : (j : Int) < (n : Int) := by omega
      have hj2 : (0 : Int) ≤ (j : Int) := by omega
      have t1 := HT.out j hj
      have t2 := HT.out (j + 1) hlt
      have HS := Lib.hid (show totTo ns (j + 1) = totTo ns j + ns.getD j 0 from rfl)
      rw [HS.out] at t2
      have hBg : B ≤ gs j := by
        rcases o1.form with ⟨h, _⟩ | ⟨g', cap, h, h2, _⟩
        · cases h
        · simp only [Value.slice.injEq, Option.some.injEq, Addr.mk.injEq, and_true] at h
          omega
      have HC := Lib.hid (markIntS_calls (some ⟨gs j, 0, none⟩) (cs j) (f j) (k + (totTo ns j : Nat)) B _ o1 (by omega) (by omega) (by omega))
      have HO := Lib.hid o1
      have HTU := Lib.hid (fun W (ho : Own W B (.slice (some ⟨gs j, 0, none⟩) (f j).length (cs j)) (marks (k + (totTo ns j : Nat)) (f j).length)) (hg : wr.grownBy W (some (gs j))) => show Rows2 W B g n gs cs (fun i => if i < j + 1 then marks (k + (totTo ns i : Nat)) (ns.getD i 0) else f i) ∧ Below B w W from by
        refine ⟨?_, hbl.out.trans ((Below.refl B _).grown hg (Nat.le_trans hB hbl.out.size) (by intro r hr; injection hr with hr; omega))⟩
        have hT := hrw.out.turn (ys := marks (k + (totTo ns j : Nat)) (f j).length) hlt (by (try dsimp only); rw [hfj, marks_len]) (by (try dsimp only); rw [hfj]; exact ho) hg
        have e : (fun i => if i = j then marks (k + (totTo ns j : Nat)) (f j).length else if i < j then marks (k + (totTo ns i : Nat)) (ns.getD i 0) else f i) = fun i => if i < j + 1 then marks (k + (totTo ns i : Nat)) (ns.getD i 0) else f i := funext fun i => by
          by_cases q : i = j
          · subst q; rw [if_pos rfl, if_pos (by omega), hl]
          · rw [if_neg q]
            by_cases q2 : i < j
            · rw [if_pos q2, if_pos (by omega)]
            · rw [if_neg q2, if_neg (by omega)]
        rw [e] at hT
        exact hT)
      clear o1 hrw hbl hfj
      have HLEN := Lib.hid hl
      generalize hq : (f j).length = len at *
      clear hq hl
      generalize totTo ns j = t at *
      go_wp2_with (go_at_call 53; refine HC.out.mono ?_; rintro e w' ⟨rfl, ho, hg⟩)
      obtain ⟨hT1, hT2⟩ := HTU.out _ ho hg
      have HT1 := Lib.hid hT1
      have HT2 := Lib.hid hT2
      go_roundw
      case rel => exact ⟨j + 1, by omega, by go_num, by rw [HS.out, show ((t + ns.getD j 0 : Nat) : Int) = (t : Int) + (len : Int) by rw [HLEN.out]; omega, Int.add_assoc], HT1, HT2⟩
      case measure => simp [intOf]; omega
    · obtain rfl : j = n := by omega
      go_wp2_with fail
      go_ret
      exact ⟨rfl, hrw.out, hbl.out⟩
end Go.Proofs.YtnfpdonlknkccacDoor
