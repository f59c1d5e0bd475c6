/- The octads of a sextet, of the model and the program. -/
import Derived.Test.YtagniijhbiglaaaGreatDoorC51
namespace Go.Proofs.YtagniijhbiglaaaGreatDoor
open Go.RowKit Go.Shelf
set_option linter.unusedVariables false
attribute [local irreducible] octS cN octF syn

def octRow (L : List Int) (i k : Nat) : List Int := (List.range k).map fun (j : Nat) => xorI (L.getD i 0) (L.getD j 0)
def octTo (L : List Int) : Nat → List Int
  | 0 => []
  | i + 1 => octTo L i ++ octRow L i i
def octSx (L : List Int) : List Int := sortI (octTo L 6)
theorem octRow_succ (L : List Int) (i k : Nat) : octRow L i (k + 1) = octRow L i k ++ [xorI (L.getD i 0) (L.getD k 0)] := by simp [octRow, List.range_succ]
theorem octRow_len (L : List Int) (i k : Nat) : (octRow L i k).length = k := by simp [octRow]
theorem octTo_len (L : List Int) (i : Nat) : 2 * (octTo L i).length = i * (i - 1) := by
  induction i with
  | zero => rfl
  | succ i ih =>
    rw [octTo, List.length_append, octRow_len, Nat.mul_add, ih]
    cases i with
    | zero => rfl
    | succ i => simp only [Nat.add_sub_cancel]; rw [Nat.mul_comm (i + 1 + 1), ← Nat.mul_comm i, Nat.mul_comm 2]; simp only [Nat.add_mul, Nat.mul_add]; omega
theorem octTo_le (L : List Int) (i : Nat) (h : i ≤ 6) : (octTo L i).length ≤ 15 := by
  have := octTo_len L i
  have h2 : i * (i - 1) ≤ 6 * 5 := Nat.mul_le_mul h (by omega)
  omega
theorem octSx_len (L : List Int) : (octSx L).length = 15 := by
  have := octTo_len L 6
  unfold octSx
  rw [sortI_len]
  omega
/-- The program's order. -/
def proRow (L : List Int) (i k : Nat) : List Int := (List.range k).map fun (j : Nat) => xorI (L.getD i 0) (L.getD (i + 1 + j) 0)
def proTo (L : List Int) : Nat → List Int
  | 0 => []
  | i + 1 => proTo L i ++ proRow L i (5 - i)
theorem proRow_succ (L : List Int) (i k : Nat) : proRow L i (k + 1) = proRow L i k ++ [xorI (L.getD i 0) (L.getD (i + 1 + k) 0)] := by simp [proRow, List.range_succ]
theorem proRow_len (L : List Int) (i k : Nat) : (proRow L i k).length = k := by simp [proRow]
theorem proTo_le (L : List Int) (i : Nat) : (proTo L i).length ≤ 5 * i := by
  induction i with
  | zero => exact Nat.le_refl _
  | succ i ih => rw [proTo, List.length_append, proRow_len]; omega
theorem pro_perm (L : List Int) : (proTo L 6).Perm (octTo L 6) := by
  have h1 : octTo L 6 = [(1, 0), (2, 0), (2, 1), (3, 0), (3, 1), (3, 2), (4, 0), (4, 1), (4, 2), (4, 3), (5, 0), (5, 1), (5, 2), (5, 3), (5, 4)].map fun (p : Nat × Nat) => xorI (L.getD p.1 0) (L.getD p.2 0) := rfl
  have h2 : proTo L 6 = [(0, 1), (0, 2), (0, 3), (0, 4), (0, 5), (1, 2), (1, 3), (1, 4), (1, 5), (2, 3), (2, 4), (2, 5), (3, 4), (3, 5), (4, 5)].map fun (p : Nat × Nat) => xorI (L.getD p.1 0) (L.getD p.2 0) := rfl
  have h3 : proTo L 6 = [(1, 0), (2, 0), (3, 0), (4, 0), (5, 0), (2, 1), (3, 1), (4, 1), (5, 1), (3, 2), (4, 2), (5, 2), (4, 3), (5, 3), (5, 4)].map fun (p : Nat × Nat) => xorI (L.getD p.1 0) (L.getD p.2 0) := by
    rw [h2]
    simp only [List.map_cons, List.map_nil]
    rw [xorI_comm (L.getD 0 0) (L.getD 1 0), xorI_comm (L.getD 0 0) (L.getD 2 0), xorI_comm (L.getD 0 0) (L.getD 3 0), xorI_comm (L.getD 0 0) (L.getD 4 0), xorI_comm (L.getD 0 0) (L.getD 5 0),
      xorI_comm (L.getD 1 0) (L.getD 2 0), xorI_comm (L.getD 1 0) (L.getD 3 0), xorI_comm (L.getD 1 0) (L.getD 4 0), xorI_comm (L.getD 1 0) (L.getD 5 0),
      xorI_comm (L.getD 2 0) (L.getD 3 0), xorI_comm (L.getD 2 0) (L.getD 4 0), xorI_comm (L.getD 2 0) (L.getD 5 0), xorI_comm (L.getD 3 0) (L.getD 4 0), xorI_comm (L.getD 3 0) (L.getD 5 0), xorI_comm (L.getD 4 0) (L.getD 5 0)]
  rw [h3, h1]
  exact List.Perm.map _ (by decide)
set_option maxRecDepth 100000 in
set_option maxHeartbeats 1000000 in
theorem l5Octads_calls (A : Option Addr) (c : Nat) (xs : List Int) (w : World) (ha : Rds w w.heap.size .i64 A xs) (h6 : xs.length = 6) (hw : ∀ j, j < 6 → IsW (xs.getD j 0)) :
    Calls Tryz.prog 18 #[.slice A 6 c] w fun e w' => ∃ v, e = .returned v ∧ Own w' w.heap.size v (octSx xs) ∧ Below w.heap.size w w' := by
  have HO := Lib.hid (own_empty w w.heap.size (Nat.le_refl _))
  have HA := Lib.hid ha
  have H6 := Lib.hid h6
  have HW := Lib.hid hw
  clear ha h6 hw
  go_enter Tryz.func18, Tryz.ntmps18
  go_wp2_with fail
  go_loopw [3, 4] (fun v i wr => ∃ p : Nat, p ≤ 6 ∧ i = .int .i64 p ∧ Hid (Own wr w.heap.size v (octTo xs p)) ∧ Hid (Below w.heap.size w wr)) (fun _ i _ => 6 - (intOf i).toNat)
  case atStart => exact ⟨0, by omega, rfl, HO, Lib.hid ((Below.refl _ _).alloc (Nat.le_refl _) _)⟩
  case round =>
    obtain ⟨p, hp, rfl, ho, hbl⟩ := hrel
    by_cases hlt : p < 6
    · have hp1 : (0 : Int) ≤ (p : Int) := by omega
      have hp2 : (p : Int) < 6 := by omega
      go_wp2_with fail
      go_loopw [3, 5] (fun v i wr => ∃ k : Nat, k ≤ p ∧ i = .int .i64 k ∧ Hid (Own wr w.heap.size v (octTo xs p ++ octRow xs p k)) ∧ Hid (Below w.heap.size w wr)) (fun _ i _ => 6 - (intOf i).toNat)
      case atStart => exact ⟨0, by omega, rfl, Lib.hid (by rw [show octRow xs p 0 = [] from rfl, List.append_nil]; exact ho.out), hbl⟩
      case round =>
        obtain ⟨k, hk, rfl, ho, hbl⟩ := hrel
        by_cases hlt2 : k < p
        · obtain ⟨b1, o1, rfl, hb1, hc1⟩ := (HA.out.below hbl.out).at_ (j := p) (by rw [H6.out]; exact hlt)
          obtain ⟨b2, o2, e2, hb2', hc2⟩ := (HA.out.below hbl.out).at_ (j := k) (by rw [H6.out]; omega)
          cases e2
          have hq1 : (0 : Int) ≤ (k : Int) := by omega
          have hq2 : (k : Int) < (p : Int) := by omega
          have hq3 : (k : Int) < 6 := by omega
          have hx := HW.out p hlt
          have hy := HW.out k (by omega)
          have HS := Lib.hid (show octTo xs p ++ octRow xs p (k + 1) = (octTo xs p ++ octRow xs p k) ++ [xorI (xs.getD p 0) (xs.getD k 0)] by rw [octRow_succ, List.append_assoc])
          have hll : (octTo xs p ++ octRow xs p k).length ≤ 1048576 := by rw [List.length_append, octRow_len]; have := octTo_le xs p (by omega); omega
          have hxx : bits .xor .i64 (xs.getD p 0) (xs.getD k 0) = xorI (xs.getD p 0) (xs.getD k 0) := xor_i64 _ _ hx.1 (by have := hx.2; omega) hy.1 (by have := hy.2; omega)
          generalize octTo xs p ++ octRow xs p k = L at *
          generalize xs.getD p 0 = x at *
          generalize xs.getD k 0 = y at *
          have hsz := hbl.out.size
          have l1 : b1 < wr.heap.size := by omega
          go_wp2_with fail
          go_region_held3 (fun w' => w'.cell? ⟨b1, o1 + p, none⟩ = some (.int .i64 x) ∧ w'.cell? ⟨b1, o1 + k, none⟩ = some (.int .i64 y))
            (first | go_keep | (go_split_ands; exact ⟨(hb2.cell (p := ⟨b1, o1 + p, none⟩) hb1).trans (by assumption), (hb2.cell (p := ⟨b1, o1 + k, none⟩) hb1).trans (by assumption)⟩))
            ((refine step_push rfl _ _ (by rfl) wr w.heap.size u3 L (xorI x y) 1 (by rfl) (by rfl) ho.out hll hsz ?_; intro v2 w2 ho2 hb2 hg2))
          rw [← HS.out] at ho2
          go_wp2_with fail
          go_roundw
          case rel => exact ⟨k + 1, by omega, by go_num, Lib.hid ho2, Lib.hid (hbl.out.trans hb2)⟩
          case measure => simp [intOf]; omega
        · obtain rfl : k = p := by omega
          go_wp2_with fail
          go_roundw
          case rel => exact ⟨k + 1, by omega, by go_num, ho, hbl⟩
          case measure => simp [intOf]; omega
    · obtain rfl : p = 6 := by omega
      obtain ⟨A2, c2, rfl⟩ := ho.out.slice
      obtain ⟨q1, q2⟩ := own_caps ho.out
      have HLE := Lib.hid (octTo_len xs 6)
      have HSO := Lib.hid (fun M h1 h2 => sortI_eq (L := octTo xs 6) (M := M) h1 h2)
      have HSX := Lib.hid (show sortI (octTo xs 6) = octSx xs from rfl)
      generalize octTo xs 6 = L at *
      go_wp2_with fail
      refine (l4Sort_calls L.length L A2 c2 wr rfl (by have := HLE.out; omega) q1 q2 ho.out.rds).mono ?_
      rintro e w3 ⟨A', c', ys, rfl, p1, s1, l1, m1, r1, a1, b3, of⟩
      have hys := HSO.out ys p1 s1
      have ow := of (by have := HLE.out; omega)
      have hB3 := hbl.out.trans (b3.mono hbl.out.size)
      go_wp2_with fail
      go_ret
      rw [hys, HSX.out] at ow
      exact ⟨_, rfl, ow.weak hbl.out.size, hB3⟩
def octA (L : List Int) : List Int × Bool := if sxB L then (octSx L, true) else ([], false)
def holdsB (L : List Int) (w : Int) : Bool := sxB L && (octSx L).contains w
theorem sx_words {xs : List Int} (h : sxB xs = true) : xs.length = 6 ∧ ∀ j, j < 6 → IsW (xs.getD j 0) := by
  obtain ⟨u, hu, rfl⟩ := (sxB_iff xs).1 h
  exact ⟨sxOf_len hu, fun j hj => by have := (sxOf_same hu (sx_at hu j hj)).1; exact ⟨this.1, this.2.1⟩⟩
set_option maxHeartbeats 1000000 in
theorem sSextetOctads_calls (A : Option Addr) (c : Nat) (xs : List Int) (w : World) (ha : Rds w w.heap.size .i64 A xs) (hx : xs.length ≤ maxLen) :
    Calls Tryz.prog 7 #[.slice A xs.length c] w (GotL w (octA xs).1 (octA xs).2) := by
  have HA := Lib.hid (sSextetValid_calls A c xs w ha hx)
  rcases h1 : sxB xs with _ | _
  · rw [show octA xs = ([], false) by unfold octA; rw [h1]; rfl]
    have H1 := Lib.hid h1
    clear h1 ha hx
    generalize xs.length = n at *
    go_enter Tryz.func7, Tryz.ntmps7
    go_wp2_with fail
    refine HA.out.mono ?_
    rintro e w1 ⟨he, b1⟩
    rw [H1.out] at he
    subst he
    have HE := Lib.hid (own_empty w1 w1.heap.size (Nat.le_refl _))
    go_wp2_with fail
    go_ret2
    exact ⟨_, rfl, HE.out.weak b1.size, b1.alloc b1.size _⟩
  · rw [show octA xs = (octSx xs, true) by unfold octA; rw [h1]; rfl]
    obtain ⟨l1, hw⟩ := sx_words h1
    have HT := Lib.hid (fun (W : World) (h : Below w.heap.size w W) => l5Octads_calls A c xs W ((ha.below h).more h.size) l1 hw)
    have H1 := Lib.hid h1
    rw [l1] at HA ⊢
    clear h1 ha hx hw l1
    generalize octSx xs = T at *
    go_enter Tryz.func7, Tryz.ntmps7
    go_wp2_with fail
    refine HA.out.mono ?_
    rintro e w1 ⟨he, b1⟩
    rw [H1.out] at he
    subst he
    go_wp2_with fail
    refine (HT.out _ b1).mono ?_
    rintro e w3 ⟨v, rfl, o3, b4⟩
    go_wp2_with fail
    go_ret2
    exact ⟨_, rfl, o3.weak b1.size, b1.trans (b4.mono b1.size)⟩
theorem contains_at {L : List Int} {w : Int} (k : Nat) (hk : k < L.length) (h : L.getD k 0 = w) : L.contains w = true := by
  rw [List.contains_iff_mem, ← h, ← getD_at L k hk]
  exact List.getElem_mem _
theorem contains_none {L : List Int} {w : Int} (h : ∀ k, k < L.length → L.getD k 0 ≠ w) : L.contains w = false := by
  rcases hc : L.contains w with _ | _
  · rfl
  · rw [List.contains_iff_mem] at hc
    obtain ⟨k, hk, e⟩ := List.getElem_of_mem hc
    rw [getD_at L k hk] at e
    exact absurd e (h k hk)
set_option maxRecDepth 100000 in
set_option maxHeartbeats 1000000 in
theorem sSextetHolds_calls (A : Option Addr) (c : Nat) (xs : List Int) (x : Int) (w : World) (ha : Rds w w.heap.size .i64 A xs) (hx : xs.length ≤ maxLen) :
    Calls Tryz.prog 12 #[.slice A xs.length c, .int .i64 x] w fun e w' => e = .returned (.bool (holdsB xs x)) ∧ Below w.heap.size w w' := by
  have HS := Lib.hid (sSextetOctads_calls A c xs w ha hx)
  clear ha hx
  rcases h1 : sxB xs with _ | _
  · rw [show octA xs = ([], false) by unfold octA; rw [h1]; rfl] at HS
    rw [show holdsB xs x = false by unfold holdsB; rw [h1]; rfl]
    clear h1
    generalize xs.length = n at *
    go_enter Tryz.func12, Tryz.ntmps12
    go_wp2_with fail
    refine HS.out.mono ?_
    rintro e w1 ⟨v, rfl, o1, b1⟩
    obtain ⟨A1, c1, rfl⟩ := o1.slice
    have HB := Lib.hid b1
    clear o1 b1
    go_wp2_with fail
    refine wp_loop_rounds 1 ?_
    rw [rounds_succ]
    go_wp2_with fail
    go_ret
    exact ⟨rfl, HB.out⟩
  · rw [show octA xs = (octSx xs, true) by unfold octA; rw [h1]; rfl] at HS
    rw [show holdsB xs x = (octSx xs).contains x by unfold holdsB; rw [h1]; rfl]
    have HL := Lib.hid (octSx_len xs)
    clear h1
    generalize octSx xs = T at *
    generalize xs.length = n at *
    have HYES := Lib.hid (fun k hk h => contains_at (L := T) (w := x) k hk h)
    have HNO := Lib.hid (fun h => contains_none (L := T) (w := x) h)
    generalize T.contains x = r at *
    go_enter Tryz.func12, Tryz.ntmps12
    go_wp2_with fail
    refine HS.out.mono ?_
    rintro e w1 ⟨v, rfl, o1, b1⟩
    obtain ⟨A1, c1, rfl⟩ := o1.slice
    have HB := Lib.hid b1
    have HR := Lib.hid o1.rds
    clear o1 b1
    go_wp2_with fail
    go_loopw [7] (fun i wr => ∃ k : Nat, k ≤ T.length ∧ i = .int .i64 k ∧ Hid (∀ j, j < k → T.getD j 0 ≠ x) ∧ Hid (Rds wr w1.heap.size .i64 A1 T) ∧ Hid (Below w.heap.size w wr)) (fun i _ => T.length - (intOf i).toNat)
    case atStart => exact ⟨0, by omega, rfl, Lib.hid (fun j h => absurd h (by omega)), HR, HB⟩
    case round =>
      obtain ⟨k, hk, rfl, hn, hr, hb⟩ := hrel
      have hl15 := HL.out
      by_cases hlt : k < T.length
      · obtain ⟨b1, o1, rfl, hb1, hc1⟩ := hr.out.at_ (j := k) hlt
        have hq1 : (0 : Int) ≤ (k : Int) := by omega
        have hq2 : (k : Int) < (T.length : Int) := by omega
        by_cases hxy : T.getD k 0 = x
        · have HF := Lib.hid (HYES.out k hlt hxy)
          rw [hxy] at hc1
          clear hxy hl15
          generalize hm : T.length = m at *
          go_wp2_with fail
          go_ret
          exact ⟨ret_b HF.out.symm, hb.out⟩
        · have HK := Lib.hid (show ∀ j, j < k + 1 → T.getD j 0 ≠ x from fun j hj => by
            by_cases e : j = k
            · rw [e]; exact hxy
            · exact hn.out j (by omega))
          have hne : (T.getD k 0 == x) = false := by simpa using hxy
          clear hxy
          generalize T.getD k 0 = y at *
          have hm15 : T.length ≤ 15 := by omega
          clear hl15
          generalize hm : T.length = m at *
          go_wp2_with fail
          go_roundw
          case rel => exact ⟨k + 1, by omega, by go_num, HK, hr, hb⟩
          case measure => simp [intOf]; omega
      · obtain rfl : k = T.length := by omega
        have HF := Lib.hid (HNO.out hn.out)
        clear hl15
        generalize hm : T.length = m at *
        go_wp2_with fail
        go_ret
        exact ⟨ret_b HF.out.symm, hb.out⟩
end Go.Proofs.YtagniijhbiglaaaGreatDoor
