/- Contracts of the program's products of digits, out of its table. -/
import Derived.Test.YtojjbdpoecmaeaaDoorC17
namespace Go.Proofs.YtojjbdpoecmaeaaDoor
open Go.RowKit
set_option linter.unusedVariables false

def prodRows : List (List Int) := [[0, 0, 0, 0], [0, 1, 2, 3], [0, 2, 3, 1], [0, 3, 1, 2]]
def prodT : List Int := [0, 0, 0, 0, 0, 1, 2, 3, 0, 2, 3, 1, 0, 3, 1, 2]
def prodG : Nat := 0
/-- The table of products in memory. -/
def Tab (w : World) : Prop := ∀ j, j < 16 → w.cell? ⟨0, j, none⟩ = some (.int .u8 (prodT.getD j 0))
theorem Tab.below {w w' : World} {B : Nat} (h : Tab w) (hb : Below B w w') (h0 : prodG < B) : Tab w' := fun j hj => (hb.cell (p := ⟨0, j, none⟩) h0).trans (h j hj)
theorem Tab.lt {w : World} (h : Tab w) : prodG < w.heap.size := World.block_lt_of_cell? w ⟨0, 0, none⟩ (h 0 (by decide))
theorem Tab.drewN {w : World} (h : Tab w) (k : Nat) : Tab (w.drewN k) := h
theorem Tab.alloc {w : World} (h : Tab w) (o : Obj) : Tab (w.alloc o) := h.below ((Below.refl _ _).alloc (Nat.le_refl _) o) h.lt
theorem prodT_all : ∀ a b : Fin 4, prodT.getD (4 * a.val + b.val) 0 = mulD (a.val : Int) (b.val : Int) := by decide
theorem digit_times (a b : Int) (w : World) (ha : IsD a) (hb : IsD b) (hT : Tab w) :
    Calls Tryd.prog 46 #[.int .u8 a, .int .u8 b] w fun e w' => e = .returned (.int .u8 (mulD a b)) ∧ w = w' := by
  obtain ⟨a, rfl⟩ := ha.fin
  obtain ⟨b, rfl⟩ := hb.fin
  have hp := prodT_all a b
  have hc := hT (4 * a.val + b.val) (by omega)
  rw [hp] at hc
  have hc' : w.cell? ⟨0, a.val * 4 + b.val, none⟩ = some (.int .u8 (mulD (a.val : Int) (b.val : Int))) := by rw [Nat.mul_comm]; exact hc
  have ha' := a.isLt
  have hb' := b.isLt
  obtain ⟨A, hA⟩ := a
  obtain ⟨B, hB⟩ := b
  generalize mulD _ _ = m at *
  simp only at *
  clear hp ha hb hT
  go_enter Tryd.func46, Tryd.ntmps46
  go_wp2
  go_ret
  exact ⟨rfl, rfl⟩
theorem digit_mirror (a : Int) (w : World) (ha : IsD a) (hT : Tab w) :
    Calls Tryd.prog 69 #[.int .u8 a] w fun e w' => e = .returned (.int .u8 (sq a)) ∧ w = w' := by
  go_enter Tryd.func69, Tryd.ntmps69
  go_wp2_with (go_at_call 46; refine (digit_times _ _ _ ha ha hT).mono ?_; rintro e w' ⟨rfl, rfl⟩)
  go_ret
  exact ⟨rfl, rfl⟩
set_option maxHeartbeats 2000000 in
theorem hexRowOf_calls (a b c : Int) (w : World) (ha : IsD a) (hb : IsD b) (hc : IsD c) (hT : Tab w) :
    Calls Tryd.prog 53 #[.int .u8 a, .int .u8 b, .int .u8 c] w fun r w' => r = .returned (.agg #[.int .u8 a, .int .u8 b, .int .u8 c, .int .u8 (hexF a b c 1), .int .u8 (hexF a b c 2), .int .u8 (hexF a b c 3)]) ∧ Below w.heap.size w w' := by
  have e1 : hexF a b c 1 = xorI (xorI (mulD a (sq 1)) (mulD b 1)) c := rfl
  have e2 : hexF a b c 2 = xorI (xorI (mulD a (sq 2)) (mulD b 2)) c := rfl
  have e3 : hexF a b c 3 = xorI (xorI (mulD a (sq 3)) (mulD b 3)) c := rfl
  have D1 : IsD 1 := ⟨by omega, by omega⟩
  have D2 : IsD 2 := ⟨by omega, by omega⟩
  have D3 : IsD 3 := ⟨by omega, by omega⟩
  rw [e1, e2, e3]
  clear e1 e2 e3
  go_enter Tryd.func53, Tryd.ntmps53
  go_wp2
  refine wp_loop_rounds 4 ?_
  iterate 4 (rw [rounds_succ]; go_wp2_with (first
    | (go_at_call 69; refine (digit_mirror _ _ (by repeat (first | assumption | apply sq_d | apply mulD_d | apply xorI_d)) (by repeat (first | assumption | apply Tab.alloc))).mono ?_; rintro e w' ⟨rfl, rfl⟩)
    | (go_at_call 46; refine (digit_times _ _ _ (by repeat (first | assumption | apply sq_d | apply mulD_d | apply xorI_d)) (by repeat (first | assumption | apply sq_d | apply mulD_d | apply xorI_d)) (by repeat (first | assumption | apply Tab.alloc))).mono ?_; rintro e w' ⟨rfl, rfl⟩)
    | (go_at_call 49; refine (digit_add _ _ _ (by repeat (first | assumption | apply sq_d | apply mulD_d | apply xorI_d)) (by repeat (first | assumption | apply sq_d | apply mulD_d | apply xorI_d))).mono ?_; rintro e w' ⟨rfl, rfl⟩)))
  exact bodyPost_ret (v := .agg #[.int .u8 a, .int .u8 b, .int .u8 c, .int .u8 (xorI (xorI (mulD a (sq 1)) (mulD b 1)) c), .int .u8 (xorI (xorI (mulD a (sq 2)) (mulD b 2)) c), .int .u8 (xorI (xorI (mulD a (sq 3)) (mulD b 3)) c)]) (by simp [results, Tryd.results53, go_sem]) rfl ⟨rfl, ((Below.refl _ _).alloc (Nat.le_refl _) _).alloc (by simp) _⟩
set_option maxHeartbeats 2000000 in
theorem hexRow_times_calls (d0 d1 d2 d3 d4 d5 : Int) (n : Int) (w : World) (h0 : IsD d0) (h1 : IsD d1) (h2 : IsD d2) (h3 : IsD d3) (h4 : IsD d4) (h5 : IsD d5) (hn : IsD n) (hT : Tab w) :
    Calls Tryd.prog 62 #[.agg #[.int .u8 d0, .int .u8 d1, .int .u8 d2, .int .u8 d3, .int .u8 d4, .int .u8 d5], .int .u8 n] w fun r w' => r = .returned (.agg #[.int .u8 (mulD d0 n), .int .u8 (mulD d1 n), .int .u8 (mulD d2 n), .int .u8 (mulD d3 n), .int .u8 (mulD d4 n), .int .u8 (mulD d5 n)]) ∧ Below w.heap.size w w' := by
  go_enter Tryd.func62, Tryd.ntmps62
  go_wp2
  refine wp_loop_rounds 7 ?_
  iterate 7 (rw [rounds_succ]; go_wp2_with (first
    | (go_at_call 69; refine (digit_mirror _ _ (by repeat (first | assumption | apply sq_d | apply mulD_d | apply xorI_d)) (by repeat (first | assumption | apply Tab.alloc))).mono ?_; rintro e w' ⟨rfl, rfl⟩)
    | (go_at_call 46; refine (digit_times _ _ _ (by repeat (first | assumption | apply sq_d | apply mulD_d | apply xorI_d)) (by repeat (first | assumption | apply sq_d | apply mulD_d | apply xorI_d)) (by repeat (first | assumption | apply Tab.alloc))).mono ?_; rintro e w' ⟨rfl, rfl⟩)
    | (go_at_call 49; refine (digit_add _ _ _ (by repeat (first | assumption | apply sq_d | apply mulD_d | apply xorI_d)) (by repeat (first | assumption | apply sq_d | apply mulD_d | apply xorI_d))).mono ?_; rintro e w' ⟨rfl, rfl⟩)))
  exact bodyPost_ret (v := .agg #[.int .u8 (mulD d0 n), .int .u8 (mulD d1 n), .int .u8 (mulD d2 n), .int .u8 (mulD d3 n), .int .u8 (mulD d4 n), .int .u8 (mulD d5 n)]) (by simp [results, Tryd.results62, go_sem]) rfl ⟨rfl, ((Below.refl _ _).alloc (Nat.le_refl _) _).alloc (by simp) _⟩
set_option maxHeartbeats 2000000 in
theorem hexRowAt_calls (k : Nat) (w : World) (hk : k < 64) (hT : Tab w) :
    Calls Tryd.prog 70 #[.int .i64 k] w fun r w' => r = .returned (.agg (vals .u8 (hexAt k)).toArray) ∧ Below w.heap.size w w' := by
  show Calls _ _ _ _ fun r w' => r = .returned (.agg #[.int .u8 ((k : Int) / 16), .int .u8 ((k : Int) / 4 % 4), .int .u8 ((k : Int) % 4), .int .u8 (hexF ((k : Int) / 16) ((k : Int) / 4 % 4) ((k : Int) % 4) 1), .int .u8 (hexF ((k : Int) / 16) ((k : Int) / 4 % 4) ((k : Int) % 4) 2), .int .u8 (hexF ((k : Int) / 16) ((k : Int) / 4 % 4) ((k : Int) % 4) 3)]) ∧ Below w.heap.size w w'
  have D1 : IsD ((k : Int) / 16) := ⟨by omega, by omega⟩
  have D2 : IsD ((k : Int) / 4 % 4) := ⟨by omega, by omega⟩
  have D3 : IsD ((k : Int) % 4) := ⟨by omega, by omega⟩
  have g1 : (k : Int) / 16 ≤ 3 := by omega
  go_enter Tryd.func70, Tryd.ntmps70
  go_wp2_with fail
  refine (hexRowOf_calls _ _ _ _ D1 D2 D3 (by repeat (first | assumption | apply Tab.alloc))).mono ?_
  rintro e w1 ⟨rfl, b1⟩
  generalize hy1 : hexF ((k : Int) / 16) ((k : Int) / 4 % 4) ((k : Int) % 4) 1 = y1
  have HY1 := Lib.hid hy1
  clear hy1
  generalize hy2 : hexF ((k : Int) / 16) ((k : Int) / 4 % 4) ((k : Int) % 4) 2 = y2
  have HY2 := Lib.hid hy2
  clear hy2
  generalize hy3 : hexF ((k : Int) / 16) ((k : Int) / 4 % 4) ((k : Int) % 4) 3 = y3
  have HY3 := Lib.hid hy3
  clear hy3
  have Q := (Blk.new w 61 #[.int .u8 0, .int .u8 0, .int .u8 0, .int .u8 0, .int .u8 0, .int .u8 0]).below b1 (by simp only [alloc_sz]; omega)
  obtain ⟨q0, q1, q2, q3, q4, q5, qf⟩ := Q.six
  have HQ := Lib.hid Q
  have HB := Lib.hid (((Below.refl w.heap.size w).alloc (Nat.le_refl _) (.cells #[.int .u8 0, .int .u8 0, .int .u8 0, .int .u8 0, .int .u8 0, .int .u8 0] 61)).trans (b1.mono (by simp only [alloc_sz]; omega)))
  clear Q b1 hT D1 D2 D3
  simp only []
  repeat (first | go_step | go_guarded | go_skip)
  exact bodyPost_ret (results_c rfl rfl HQ.out.set6 Tryd.underlying61 rfl rowInfo) rfl ⟨by rw [HY1.out, HY2.out, HY3.out], below_set6 HB.out (Nat.le_refl _)⟩
end Go.Proofs.YtojjbdpoecmaeaaDoor
