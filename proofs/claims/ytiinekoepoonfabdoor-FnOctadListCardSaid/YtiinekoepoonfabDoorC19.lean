/- Contracts of the program's products of digits, out of its table. -/
import Derived.Test.YtiinekoepoonfabDoorC17
namespace Go.Proofs.YtiinekoepoonfabDoor
open Go.RowKit
set_option linter.unusedVariables false

def prodRows : List (List Int) := [[0, 0, 0, 0], [0, 1, 2, 3], [0, 2, 3, 1], [0, 3, 1, 2]]
def prodT : List Int := [0, 0, 0, 0, 0, 1, 2, 3, 0, 2, 3, 1, 0, 3, 1, 2]
def prodG : Nat := 2
/-- The table of products in memory. -/
def TabP (w : World) : Prop := ∀ j, j < 16 → w.cell? ⟨2, j, none⟩ = some (.int .u8 (prodT.getD j 0))
theorem TabP.below {w w' : World} {B : Nat} (h : TabP w) (hb : Below B w w') (h0 : prodG < B) : TabP w' := fun j hj => (hb.cell (p := ⟨2, j, none⟩) h0).trans (h j hj)
theorem TabP.lt {w : World} (h : TabP w) : prodG < w.heap.size := World.block_lt_of_cell? w ⟨2, 0, none⟩ (h 0 (by decide))
theorem TabP.drewN {w : World} (h : TabP w) (k : Nat) : TabP (w.drewN k) := h
theorem TabP.alloc {w : World} (h : TabP w) (o : Obj) : TabP (w.alloc o) := h.below ((Below.refl _ _).alloc (Nat.le_refl _) o) h.lt
theorem prodT_all : ∀ a b : Fin 4, prodT.getD (4 * a.val + b.val) 0 = mulD (a.val : Int) (b.val : Int) := by decide
theorem digit_times (a b : Int) (w : World) (ha : IsD a) (hb : IsD b) (hT : TabP w) :
    Calls Tryd.prog 127 #[.int .u8 a, .int .u8 b] w fun e w' => e = .returned (.int .u8 (mulD a b)) ∧ w = w' := by
  obtain ⟨a, rfl⟩ := ha.fin
  obtain ⟨b, rfl⟩ := hb.fin
  have hp := prodT_all a b
  have hc := hT (4 * a.val + b.val) (by omega)
  rw [hp] at hc
  have hc' : w.cell? ⟨2, a.val * 4 + b.val, none⟩ = some (.int .u8 (mulD (a.val : Int) (b.val : Int))) := by rw [Nat.mul_comm]; exact hc
  have ha' := a.isLt
  have hb' := b.isLt
  obtain ⟨A, hA⟩ := a
  obtain ⟨B, hB⟩ := b
  generalize mulD _ _ = m at *
  simp only at *
  clear hp ha hb hT
  go_enter Tryd.func127, Tryd.ntmps127
  go_wp2
  go_ret
  exact ⟨rfl, rfl⟩
theorem digit_mirror (a : Int) (w : World) (ha : IsD a) (hT : TabP w) :
    Calls Tryd.prog 128 #[.int .u8 a] w fun e w' => e = .returned (.int .u8 (sq a)) ∧ w = w' := by
  go_enter Tryd.func128, Tryd.ntmps128
  go_wp2_with (go_at_call 127; refine (digit_times _ _ _ ha ha hT).mono ?_; rintro e w' ⟨rfl, rfl⟩)
  go_ret
  exact ⟨rfl, rfl⟩
set_option maxHeartbeats 2000000 in
theorem hexRowOf_calls (a b c : Int) (w : World) (ha : IsD a) (hb : IsD b) (hc : IsD c) (hT : TabP w) :
    Calls Tryd.prog 124 #[.int .u8 a, .int .u8 b, .int .u8 c] w fun r w' => r = .returned (.agg #[.int .u8 a, .int .u8 b, .int .u8 c, .int .u8 (hexF a b c 1), .int .u8 (hexF a b c 2), .int .u8 (hexF a b c 3)]) ∧ Below w.heap.size w w' := by
  have e1 : hexF a b c 1 = xorI (xorI (mulD a (sq 1)) (mulD b 1)) c := rfl
  have e2 : hexF a b c 2 = xorI (xorI (mulD a (sq 2)) (mulD b 2)) c := rfl
  have e3 : hexF a b c 3 = xorI (xorI (mulD a (sq 3)) (mulD b 3)) c := rfl
  have D1 : IsD 1 := ⟨by omega, by omega⟩
  have D2 : IsD 2 := ⟨by omega, by omega⟩
  have D3 : IsD 3 := ⟨by omega, by omega⟩
  rw [e1, e2, e3]
  clear e1 e2 e3
  go_enter Tryd.func124, Tryd.ntmps124
  go_wp2
  refine wp_loop_rounds 4 ?_
  iterate 4 (rw [rounds_succ]; go_wp2_with (first
    | (go_at_call 128; refine (digit_mirror _ _ (by repeat (first | assumption | apply sq_d | apply mulD_d | apply xorI_d)) (by repeat (first | assumption | apply TabP.alloc))).mono ?_; rintro e w' ⟨rfl, rfl⟩)
    | (go_at_call 127; refine (digit_times _ _ _ (by repeat (first | assumption | apply sq_d | apply mulD_d | apply xorI_d)) (by repeat (first | assumption | apply sq_d | apply mulD_d | apply xorI_d)) (by repeat (first | assumption | apply TabP.alloc))).mono ?_; rintro e w' ⟨rfl, rfl⟩)
    | (go_at_call 126; refine (digit_add _ _ _ (by repeat (first | assumption | apply sq_d | apply mulD_d | apply xorI_d)) (by repeat (first | assumption | apply sq_d | apply mulD_d | apply xorI_d))).mono ?_; rintro e w' ⟨rfl, rfl⟩)))
  exact bodyPost_ret (v := .agg #[.int .u8 a, .int .u8 b, .int .u8 c, .int .u8 (xorI (xorI (mulD a (sq 1)) (mulD b 1)) c), .int .u8 (xorI (xorI (mulD a (sq 2)) (mulD b 2)) c), .int .u8 (xorI (xorI (mulD a (sq 3)) (mulD b 3)) c)]) (by simp [results, Tryd.results124, go_sem]) rfl ⟨rfl, ((Below.refl _ _).alloc (Nat.le_refl _) _).alloc (by simp) _⟩
end Go.Proofs.YtiinekoepoonfabDoor
