/- A list of lists that grows by a row at a time. -/
import Derived.Test.YtnfpdonlknkccacDoorC67
namespace Go.Proofs.YtnfpdonlknkccacDoor
open Go.RowKit
set_option linter.unusedVariables false

/-- The outer list v and its n rows, all of the call's own at or above block B, all apart. -/
structure Outer (w : World) (B : Nat) (v : Value) (n : Nat) (gs cs : Nat → Nat) (f : Nat → List Int) : Prop where
  own : w.ownsRow B 28 1 v n ((List.range n).map fun j => Value.slice (some ⟨gs j, 0, none⟩) (f j).length (cs j))
  rows : ∀ j, j < n → Own w B (.slice (some ⟨gs j, 0, none⟩) (f j).length (cs j)) (f j) ∧ v.ownBlock ≠ some (gs j) ∧ gs j < w.heap.size ∧ ∀ k, k < n → k ≠ j → gs k ≠ gs j
section
variable {w w' : World} {B n : Nat} {v : Value} {gs cs : Nat → Nat} {f : Nat → List Int}
theorem ownsRow_below {t : TypeId} {m : Nat} {vs : List Value} (h : w.ownsRow B t 1 v m vs) (hb : Below w.heap.size w w') : w'.ownsRow B t 1 v m vs := by
  refine ⟨h.1, ?_⟩
  rcases h.2 with h1 | ⟨g, cap, cur, h1, h2, h3, h4⟩
  · exact .inl h1
  · exact .inr ⟨g, cap, cur, h1, h2, (hb.block g (Array.getElem?_eq_some_iff.1 h3).1).trans h3, h4⟩
theorem Outer.below (h : Outer w B v n gs cs f) (hb : Below w.heap.size w w') : Outer w' B v n gs cs f := by
  refine ⟨ownsRow_below h.own hb, fun j hj => ?_⟩
  obtain ⟨h1, h2, h3, h4⟩ := h.rows j hj
  exact ⟨h1.below hb, h2, Nat.lt_of_lt_of_le h3 hb.size, h4⟩
theorem Outer.size (h : Outer w B v n gs cs f) : ∀ k, v.ownBlock = some k → k < w.heap.size := by
  intro k hk
  rcases h.own.2 with ⟨e, _⟩ | ⟨g, cap, cur, e, _, h3, _⟩
  · subst e; simp [Value.ownBlock] at hk
  · subst e
    simp only [Value.ownBlock, Option.some.injEq] at hk
    subst hk
    exact (Array.getElem?_eq_some_iff.1 h3).1
/-- One row more: it lies above all that was there when its round began (S). -/
theorem Outer.push {v' : Value} {S g' c' : Nat} {ys : List Int} (h : Outer w B v n gs cs f) (hS : ∀ j, j < n → gs j < S) (hv : ∀ k, v.ownBlock = some k → k < S) (hBS : B ≤ S) (hn : f n = ys)
    (hrow : Own w S (.slice (some ⟨g', 0, none⟩) ys.length c') ys)
    (hout : w'.ownsRow B 28 1 v' (n + 1) (((List.range n).map fun j => Value.slice (some ⟨gs j, 0, none⟩) (f j).length (cs j)) ++ [.slice (some ⟨g', 0, none⟩) ys.length c']))
    (hg : w.grownBy w' v.ownBlock) (hnew : ∀ k, v'.ownBlock = some k → v.ownBlock = some k ∨ w.heap.size ≤ k) :
    Outer w' B v' (n + 1) (fun j => if j = n then g' else gs j) (fun j => if j = n then c' else cs j) f := by
  have hgS : S ≤ g' ∧ g' < w.heap.size := by
    rcases hrow.form with ⟨e, _⟩ | ⟨b, cap, e, e2, e3, _⟩
    · cases e
    · simp only [Value.slice.injEq, Option.some.injEq, Addr.mk.injEq, and_true] at e
      omega
  refine ⟨?_, fun j hj => ?_⟩
  · rw [List.range_succ, List.map_append]
    have e : (List.range n).map (fun j => Value.slice (some ⟨if j = n then g' else gs j, 0, none⟩) (f j).length (if j = n then c' else cs j)) = (List.range n).map fun j => Value.slice (some ⟨gs j, 0, none⟩) (f j).length (cs j) := by
      refine List.map_congr_left fun j hj => ?_
      have := List.mem_range.1 hj
      rw [if_neg (by omega), if_neg (by omega)]
    rw [e]
    simpa [hn] using hout
  · by_cases q : j = n
    · subst q
      rw [if_pos rfl, if_pos rfl, hn]
      refine ⟨(hrow.apart2 hg fun k hk => ?_).weak hBS, ?_, Nat.lt_of_lt_of_le hgS.2 hg.size, fun k hk hne => ?_⟩
      · simp only [Value.ownBlock, Option.some.injEq] at hk
        intro e
        have := hv k e.symm
        omega
      · intro e
        rcases hnew g' e with e2 | e2
        · have := hv g' e2; omega
        · omega
      · rw [if_neg hne]
        have := hS k (by omega)
        omega
    · obtain ⟨h1, h2, h3, h4⟩ := h.rows j (by omega)
      rw [if_neg q, if_neg q]
      refine ⟨h1.apart2 hg fun k hk => ?_, ?_, Nat.lt_of_lt_of_le h3 hg.size, fun k hk hne => ?_⟩
      · simp only [Value.ownBlock, Option.some.injEq] at hk
        intro e
        exact h2 (by rw [← e, hk])
      · intro e
        rcases hnew _ e with e2 | e2
        · exact h2 e2
        · omega
      · by_cases q2 : k = n
        · rw [if_pos q2]
          have := hS j (by omega)
          omega
        · rw [if_neg q2]
          exact h4 k (by omega) hne
/-- The rows of a grown list of lists. -/
theorem Outer.rows2 {g c m : Nat} (h : Outer w B (.slice (some ⟨g, 0, none⟩) m c) n gs cs f) : Rows2 w B g n gs cs f := by
  refine ⟨h.size g rfl, fun j hj => ?_⟩
  obtain ⟨h1, h2, h3, h4⟩ := h.rows j hj
  refine ⟨?_, h1, fun e => h2 (by simp [Value.ownBlock, e]), fun k hk hne => h4 k hk hne⟩
  have := World.ownsRow.cells h.own (g := g) rfl j (Value.slice (some ⟨gs j, 0, none⟩) (f j).length (cs j)) (by simp [hj])
  unfold Addr.add at this
  by_cases h0 : j = 0
  · subst h0; simpa using this
  · simpa [h0] using this
end
end Go.Proofs.YtnfpdonlknkccacDoor
