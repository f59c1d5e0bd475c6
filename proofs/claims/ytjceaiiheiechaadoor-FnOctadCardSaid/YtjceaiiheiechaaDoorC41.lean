/- Octads of the program: counted, met, dodecads. -/
import Derived.Test.YtjceaiiheiechaaDoorC40
import Derived.Test.YtjceaiiheiechaaDoorC31
import Derived.Sort.BigQuietIn
namespace Go.Proofs.YtjceaiiheiechaaDoor
open Go.RowKit Go.Shelf
attribute [local go_sem] Oper.semAt_some
set_option linter.unusedVariables false
attribute [local irreducible] octS cN octF

theorem set_fin {V X : World} {p : Addr} {u : Value} {n₀ : Nat} (hn : n₀ ≤ p.block) (hX : X.heap = (V.setCell p u).heap) (hX2 : X.os = V.os ∧ X.tape = V.tape ∧ X.output = V.output) :
    Below n₀ V X ∧ ∀ q, q ≠ p.block → X.heap[q]? = V.heap[q]? := by
  have b0 : Below n₀ V (V.setCell p u) := (Below.refl _ V).setCell hn _
  exact ⟨⟨hX2.1, hX2.2.1, hX2.2.2, by rw [hX]; exact b0.size, fun q hq => by rw [hX]; exact b0.block q hq⟩, fun q hq => by rw [hX]; exact Below.heap_setCell V p _ q hq⟩
theorem set_kp {V X : World} {p : Addr} {u : Value} {n₀ lw mid B C : Nat} (hn : n₀ ≤ p.block) (h1 : p.block < lw) (h2 : p.block < B) (hX : X.heap = (V.setCell p u).heap) (hX2 : X.os = V.os ∧ X.tape = V.tape ∧ X.output = V.output) :
    KeepsIn B C V X ∧ KpOf n₀ lw mid V X := by
  obtain ⟨b, hk⟩ := set_fin hn hX hX2
  exact ⟨⟨b.size, fun q h3 h4 => hk q (by omega)⟩, b, ⟨b.size, fun q h3 h4 => hk q (by omega)⟩⟩
theorem set_box {V X : World} {g : Nat} {u v : Value} {t : TypeId} (h : V.heap[g]? = some (.cells #[u] t (0, 0))) (hX : X.heap = (V.setCell ⟨g, 0, none⟩ v).heap) : X.heap[g]? = some (.cells #[v] t (0, 0)) := by
  rw [hX]
  have := heap_setCell_same V g 0 #[u] t v h
  simpa using this
theorem own_arr9 {w : World} {B g : Nat} (xs : List Int) (hl : xs.length = 9) (hg : w.heap[g]? = some (.cells (vals .i64 xs).toArray 3 (0, 0))) (hB : B ≤ g) : Own w B (.slice (some ⟨g, 0, none⟩) 9 9) xs :=
  ⟨by simp [vals_len, hl], .inr ⟨g, 9, _, by rw [hl], hB, hg, by simp [hl], by unfold maxLen; omega, by simp [vals_len, hl], by
    have : (vals .i64 xs).length ≤ xs.length * 1 := by rw [vals_len]; omega
    simp [List.take_of_length_le, vals_len]⟩⟩
theorem filter_00 (L : List Int) : L.filter (oC 0 0) = L := by
  rw [List.filter_eq_self]
  intro x _
  simp [oC, andI]
theorem octs_it (a b : Int) (wa : IsW a) (wb : IsW b) (k n₀ : Nat) (hk : k = 4096) (w : World) (hn : n₀ ≤ w.heap.size) (hg : tab2G < n₀) (hT : Tab2 w) :
    SeqIt Tryd.prog 65 #[.pointer (some ⟨w.heap.size, 0, none⟩), .pointer (some ⟨w.heap.size + 1, 0, none⟩)] (encO (a := a) (b := b)) 10 (KpOf n₀ w.heap.size (w.heap.size + 2)) (fun ys => ys.map (fun x => x.val) = (octF k).filter (oC a b)) (fun _ => True) 4096 (owW a b w) := by
  have hs := owW_size a b w
  have hc := owW_cells a b w
  have hb := owW_below a b w
  have hT2 := hT.below hb hT.lt
  generalize owW a b w = W at *
  exact octads_it a b wa wb k n₀ w.heap.size (w.heap.size + 2) w.heap.size (w.heap.size + 1) hk W (by omega) (by omega) (Nat.le_refl _) (by omega) (by omega) (by omega) (by omega) (by omega) hg hc.1 hc.2 hT2
/-- The least so far. -/
def minD (n : Int) (L : List Int) : Int := L.foldl (fun m x => if dodB n x then min m x else m) 16777215
theorem minD_snoc (n : Int) (L : List Int) (x : Int) : minD n (L ++ [x]) = if dodB n x then min (minD n L) x else minD n L := by simp [minD]
theorem minD_le (n : Int) (L : List Int) : minD n L ≤ 16777215 ∧ (∀ x ∈ L, dodB n x = true → minD n L ≤ x) ∧ (minD n L = 16777215 ∨ ∃ x ∈ L, dodB n x = true ∧ minD n L = x) := by
  induction L using snocInd with
  | nil => exact ⟨Int.le_refl _, by simp, .inl rfl⟩
  | append_singleton L y ih =>
    obtain ⟨h1, h2, h3⟩ := ih
    rw [minD_snoc]
    by_cases hy : dodB n y = true
    · rw [if_pos hy]
      refine ⟨by omega, fun x hx hd => ?_, ?_⟩
      · rcases List.mem_append.1 hx with h | h
        · have := h2 x h hd; omega
        · have : x = y := by simpa using h
          omega
      · rcases h3 with h3 | ⟨x, hx, hd, e⟩
        · by_cases hle : y ≤ 16777215
          · exact .inr ⟨y, by simp, hy, by omega⟩
          · exact .inl (by omega)
        · by_cases hle : minD n L ≤ y
          · exact .inr ⟨x, by simp [hx], hd, by omega⟩
          · exact .inr ⟨y, by simp, hy, by omega⟩
    · rw [if_neg hy]
      refine ⟨h1, fun x hx hd => ?_, ?_⟩
      · rcases List.mem_append.1 hx with h | h
        · exact h2 x h hd
        · have : x = y := by simpa using h
          rw [this] at hd
          exact absurd hd hy
      · rcases h3 with h3 | ⟨x, hx, hd, e⟩
        · exact .inl h3
        · exact .inr ⟨x, by simp [hx], hd, e⟩
theorem minD_all (n : Int) (hn : IsW n) (hc : codeInB n = true) (h12 : wt n = 12) (L : List Int) (hL : ∀ x, x ∈ L ↔ IsOct x) : minD n L = leastD n := by
  obtain ⟨a, b, c⟩ := leastD_is n hn.1 hn.2 hc h12
  obtain ⟨h1, h2, h3⟩ := minD_le n L
  have h4 := h2 _ ((hL _).2 a) b
  rcases h3 with h3 | ⟨x, hx, hd, e⟩
  · have := a.rng; omega
  · have := c x ((hL x).1 hx) hd; omega
theorem dod_in (n x : Int) (hn : IsW n) (hc : codeInB n = true) (hx : IsOct x) : codeInB (xorI n x) = true := by
  have hr := hx.rng
  obtain ⟨m, hm, e, _⟩ := hx
  exact code_sum n x hn.1 hn.2 hr.1 hr.2 hc ((codeIn_iff x hr.1 hr.2).2 ⟨m, hm, e⟩)
end Go.Proofs.YtjceaiiheiechaaDoor
