/- Tables of two sextets, of the program: listed. -/
import Derived.Test.YtagniijhbiglaaaDoorC56
namespace Go.Proofs.YtagniijhbiglaaaDoor
open Go.RowKit Go.Shelf
set_option linter.unusedVariables false
attribute [local irreducible] octS cN octF syn

/-- Some elements more, out of a slice. -/
theorem wpList_pushes {ops : Array Oper} {rest : List Oper} {o : Oper} {a : Act} {Q : Exit → Act → World → Prop} (hgd : o.guard = none) (s y : Operand)
    (ho : o.op = .call { callee := .builtin .append, args := #[s, y], argTypes := #[24, 24] })
    (w : World) (B : Nat) (v : Value) (xs ys : List Int) (b c : Nat) (hs : a.eval s = v) (hy : a.eval y = .slice (some ⟨b, 0, none⟩) ys.length c)
    (hcell : ∀ j, j < ys.length → w.cell? ⟨b, j, none⟩ = some (.int .i64 (ys.getD j 0))) (hown : Own w B v xs) (hlen : xs.length ≤ 1048576) (hyl : ys.length ≤ 1048576) (hy0 : 0 < ys.length) (hB : B ≤ w.heap.size)
    (h : ∀ v' w', Own w' B v' (xs ++ ys) → Below B w w' → w.grownBy w' v.ownBlock → wpList Tryd.prog ops Q rest (a.put o.dst v') w') :
    wpList Tryd.prog ops Q (o :: rest) a w := by
  obtain ⟨i0, hi, hz0, hz1, hz2⟩ := info_parts intRow
  refine wpList_append_own_at _ hgd s y 24 ho B 3 i0 (.int .i64 0) 1 8 Tryd.underlying24 hi hz0 hz1 hz2 rfl (by decide) v xs.length (vals .i64 xs) hs
    hown ⟨b, 0, none⟩ ys.length c (vals .i64 ys) hy (by rw [vals_len, Nat.mul_one]) ?_ ?_ ?_ ?_ ?_ ?_
  · intro j u hj
    have hjl : j < ys.length := by
      have := (List.getElem?_eq_some_iff.1 hj).1
      rwa [vals_len] at this
    have e := vals_get .i64 ys j hjl
    rw [e] at hj
    cases hj
    have := hcell j hjl
    have ea : (⟨b, 0, none⟩ : Addr).add j = ⟨b, j, none⟩ := by unfold Addr.add; split <;> simp_all
    rw [ea]
    exact this
  · intro u hu
    obtain ⟨x, _, rfl⟩ := List.mem_map.1 (show u ∈ ys.map (Value.int .i64) from hu)
    rfl
  · unfold maxLen; omega
  · omega
  · exact hB
  · intro v' w' h1 h2 _ _
    refine h v' w' ?_ ((Below.refl B w).grown h2 hB (own_row_ge hown)) h2
    unfold Own
    rw [vals_append, List.length_append]
    exact h1
theorem consL {n : Nat} {T : List Int} (h : T.length = n + 1) : ∃ x R, T = x :: R ∧ R.length = n := by
  match T, h with
  | x :: R, h => exact ⟨x, R, rfl, by simpa using h⟩
theorem list36 (T : List Int) (h : T.length = 36) : ∃ x0 x1 x2 x3 x4 x5 x6 x7 x8 x9 x10 x11 x12 x13 x14 x15 x16 x17 x18 x19 x20 x21 x22 x23 x24 x25 x26 x27 x28 x29 x30 x31 x32 x33 x34 x35, T = [x0, x1, x2, x3, x4, x5, x6, x7, x8, x9, x10, x11, x12, x13, x14, x15, x16, x17, x18, x19, x20, x21, x22, x23, x24, x25, x26, x27, x28, x29, x30, x31, x32, x33, x34, x35] := by
  obtain ⟨x0, R0, rfl, h0⟩ := consL h
  obtain ⟨x1, R1, rfl, h1⟩ := consL h0
  obtain ⟨x2, R2, rfl, h2⟩ := consL h1
  obtain ⟨x3, R3, rfl, h3⟩ := consL h2
  obtain ⟨x4, R4, rfl, h4⟩ := consL h3
  obtain ⟨x5, R5, rfl, h5⟩ := consL h4
  obtain ⟨x6, R6, rfl, h6⟩ := consL h5
  obtain ⟨x7, R7, rfl, h7⟩ := consL h6
  obtain ⟨x8, R8, rfl, h8⟩ := consL h7
  obtain ⟨x9, R9, rfl, h9⟩ := consL h8
  obtain ⟨x10, R10, rfl, h10⟩ := consL h9
  obtain ⟨x11, R11, rfl, h11⟩ := consL h10
  obtain ⟨x12, R12, rfl, h12⟩ := consL h11
  obtain ⟨x13, R13, rfl, h13⟩ := consL h12
  obtain ⟨x14, R14, rfl, h14⟩ := consL h13
  obtain ⟨x15, R15, rfl, h15⟩ := consL h14
  obtain ⟨x16, R16, rfl, h16⟩ := consL h15
  obtain ⟨x17, R17, rfl, h17⟩ := consL h16
  obtain ⟨x18, R18, rfl, h18⟩ := consL h17
  obtain ⟨x19, R19, rfl, h19⟩ := consL h18
  obtain ⟨x20, R20, rfl, h20⟩ := consL h19
  obtain ⟨x21, R21, rfl, h21⟩ := consL h20
  obtain ⟨x22, R22, rfl, h22⟩ := consL h21
  obtain ⟨x23, R23, rfl, h23⟩ := consL h22
  obtain ⟨x24, R24, rfl, h24⟩ := consL h23
  obtain ⟨x25, R25, rfl, h25⟩ := consL h24
  obtain ⟨x26, R26, rfl, h26⟩ := consL h25
  obtain ⟨x27, R27, rfl, h27⟩ := consL h26
  obtain ⟨x28, R28, rfl, h28⟩ := consL h27
  obtain ⟨x29, R29, rfl, h29⟩ := consL h28
  obtain ⟨x30, R30, rfl, h30⟩ := consL h29
  obtain ⟨x31, R31, rfl, h31⟩ := consL h30
  obtain ⟨x32, R32, rfl, h32⟩ := consL h31
  obtain ⟨x33, R33, rfl, h33⟩ := consL h32
  obtain ⟨x34, R34, rfl, h34⟩ := consL h33
  obtain ⟨x35, R35, rfl, h35⟩ := consL h34
  obtain rfl := List.eq_nil_of_length_eq_zero h35
  exact ⟨x0, x1, x2, x3, x4, x5, x6, x7, x8, x9, x10, x11, x12, x13, x14, x15, x16, x17, x18, x19, x20, x21, x22, x23, x24, x25, x26, x27, x28, x29, x30, x31, x32, x33, x34, x35, rfl⟩
theorem row0 (T : List Int) (h : T.length = 36) (W : World) : (Instr.index 66 (.agg (V36 T)) (.int .i64 0)).run Tryd.prog W = .ok (.agg #[.int .i64 (T.getD 0 0), .int .i64 (T.getD 1 0), .int .i64 (T.getD 2 0), .int .i64 (T.getD 3 0), .int .i64 (T.getD 4 0), .int .i64 (T.getD 5 0)]) W := by
  obtain ⟨x0, x1, x2, x3, x4, x5, x6, x7, x8, x9, x10, x11, x12, x13, x14, x15, x16, x17, x18, x19, x20, x21, x22, x23, x24, x25, x26, x27, x28, x29, x30, x31, x32, x33, x34, x35, rfl⟩ := list36 T h
  exact (show _ = _ by kernel_rfl)
theorem row1 (T : List Int) (h : T.length = 36) (W : World) : (Instr.index 66 (.agg (V36 T)) (.int .i64 1)).run Tryd.prog W = .ok (.agg #[.int .i64 (T.getD 6 0), .int .i64 (T.getD 7 0), .int .i64 (T.getD 8 0), .int .i64 (T.getD 9 0), .int .i64 (T.getD 10 0), .int .i64 (T.getD 11 0)]) W := by
  obtain ⟨x0, x1, x2, x3, x4, x5, x6, x7, x8, x9, x10, x11, x12, x13, x14, x15, x16, x17, x18, x19, x20, x21, x22, x23, x24, x25, x26, x27, x28, x29, x30, x31, x32, x33, x34, x35, rfl⟩ := list36 T h
  exact (show _ = _ by kernel_rfl)
theorem row2 (T : List Int) (h : T.length = 36) (W : World) : (Instr.index 66 (.agg (V36 T)) (.int .i64 2)).run Tryd.prog W = .ok (.agg #[.int .i64 (T.getD 12 0), .int .i64 (T.getD 13 0), .int .i64 (T.getD 14 0), .int .i64 (T.getD 15 0), .int .i64 (T.getD 16 0), .int .i64 (T.getD 17 0)]) W := by
  obtain ⟨x0, x1, x2, x3, x4, x5, x6, x7, x8, x9, x10, x11, x12, x13, x14, x15, x16, x17, x18, x19, x20, x21, x22, x23, x24, x25, x26, x27, x28, x29, x30, x31, x32, x33, x34, x35, rfl⟩ := list36 T h
  exact (show _ = _ by kernel_rfl)
theorem row3 (T : List Int) (h : T.length = 36) (W : World) : (Instr.index 66 (.agg (V36 T)) (.int .i64 3)).run Tryd.prog W = .ok (.agg #[.int .i64 (T.getD 18 0), .int .i64 (T.getD 19 0), .int .i64 (T.getD 20 0), .int .i64 (T.getD 21 0), .int .i64 (T.getD 22 0), .int .i64 (T.getD 23 0)]) W := by
  obtain ⟨x0, x1, x2, x3, x4, x5, x6, x7, x8, x9, x10, x11, x12, x13, x14, x15, x16, x17, x18, x19, x20, x21, x22, x23, x24, x25, x26, x27, x28, x29, x30, x31, x32, x33, x34, x35, rfl⟩ := list36 T h
  exact (show _ = _ by kernel_rfl)
theorem row4 (T : List Int) (h : T.length = 36) (W : World) : (Instr.index 66 (.agg (V36 T)) (.int .i64 4)).run Tryd.prog W = .ok (.agg #[.int .i64 (T.getD 24 0), .int .i64 (T.getD 25 0), .int .i64 (T.getD 26 0), .int .i64 (T.getD 27 0), .int .i64 (T.getD 28 0), .int .i64 (T.getD 29 0)]) W := by
  obtain ⟨x0, x1, x2, x3, x4, x5, x6, x7, x8, x9, x10, x11, x12, x13, x14, x15, x16, x17, x18, x19, x20, x21, x22, x23, x24, x25, x26, x27, x28, x29, x30, x31, x32, x33, x34, x35, rfl⟩ := list36 T h
  exact (show _ = _ by kernel_rfl)
theorem row5 (T : List Int) (h : T.length = 36) (W : World) : (Instr.index 66 (.agg (V36 T)) (.int .i64 5)).run Tryd.prog W = .ok (.agg #[.int .i64 (T.getD 30 0), .int .i64 (T.getD 31 0), .int .i64 (T.getD 32 0), .int .i64 (T.getD 33 0), .int .i64 (T.getD 34 0), .int .i64 (T.getD 35 0)]) W := by
  obtain ⟨x0, x1, x2, x3, x4, x5, x6, x7, x8, x9, x10, x11, x12, x13, x14, x15, x16, x17, x18, x19, x20, x21, x22, x23, x24, x25, x26, x27, x28, x29, x30, x31, x32, x33, x34, x35, rfl⟩ := list36 T h
  exact (show _ = _ by kernel_rfl)
def z36V : Array Value := (List.replicate 36 (Value.int .i64 0)).toArray
theorem mk36 (W : World) : (Instr.makeSlice 24 (.int .i64 0) (.int .i64 36)).run Tryd.prog W = .ok (.slice (some ⟨W.heap.size, 0, none⟩) 0 36) (W.alloc (.cells z36V 3)) := by kernel_rfl
theorem own36 (w : World) : Own (w.alloc (.cells z36V 3)) w.heap.size (.slice (some ⟨w.heap.size, 0, none⟩) 0 36) [] :=
  ⟨rfl, .inr ⟨w.heap.size, 36, z36V, rfl, Nat.le_refl _, heap_alloc_new w _, Nat.zero_le _, by unfold maxLen; omega, rfl, rfl⟩⟩
/-- A row of a table. -/
def rowT (T : List Int) (k : Nat) : List Int := [T.getD (6 * k) 0, T.getD (6 * k + 1) 0, T.getD (6 * k + 2) 0, T.getD (6 * k + 3) 0, T.getD (6 * k + 4) 0, T.getD (6 * k + 5) 0]
def rowsT (T : List Int) : Nat → List Int
  | 0 => []
  | k + 1 => rowsT T k ++ rowT T k
theorem rowsT_all (T : List Int) (h : T.length = 36) : rowsT T 6 = T := by
  obtain ⟨x0, x1, x2, x3, x4, x5, x6, x7, x8, x9, x10, x11, x12, x13, x14, x15, x16, x17, x18, x19, x20, x21, x22, x23, x24, x25, x26, x27, x28, x29, x30, x31, x32, x33, x34, x35, rfl⟩ := list36 T h
  rfl
theorem rowsT_len (T : List Int) (k : Nat) : (rowsT T k).length = 6 * k := by
  induction k with
  | zero => rfl
  | succ k ih => rw [rowsT, List.length_append, ih]; simp [rowT]; omega
theorem row_all (T : List Int) (h : T.length = 36) (k : Nat) (hk : k < 6) (W : World) : (Instr.index 66 (.agg (V36 T)) (.int .i64 (k : Nat))).run Tryd.prog W = .ok (.agg #[.int .i64 (T.getD (6 * k) 0), .int .i64 (T.getD (6 * k + 1) 0), .int .i64 (T.getD (6 * k + 2) 0), .int .i64 (T.getD (6 * k + 3) 0), .int .i64 (T.getD (6 * k + 4) 0), .int .i64 (T.getD (6 * k + 5) 0)]) W := by
  match k, hk with
  | 0, _ => exact row0 T h W
  | 1, _ => exact row1 T h W
  | 2, _ => exact row2 T h W
  | 3, _ => exact row3 T h W
  | 4, _ => exact row4 T h W
  | 5, _ => exact row5 T h W
set_option maxRecDepth 100000 in
set_option maxHeartbeats 1000000 in
theorem tbList_calls (T : List Int) (h : T.length = 36) (w : World) :
    Calls Tryd.prog 59 #[.agg (V36 T)] w fun e w' => ∃ v, e = .returned v ∧ Own w' w.heap.size v T ∧ Below w.heap.size w w' := by
  have HM := mk36
  have HALL := Lib.hid (rowsT_all T h)
  have HROW := Lib.hid (fun k hk W => row_all T h k hk W)
  have hs : (V36 T).size = 36 := by simp [V36, h]
  have HI := Lib.hid (show (Tryd.prog.info? 66).map (·.size) = some (V36 T).size by rw [hs]; exact tbInfo)
  have HLEN := Lib.hid (fun k => rowsT_len T k)
  generalize hV : V36 T = V at *
  clear h hs hV
  go_enter Tryd.func59, Tryd.ntmps59
  go_wp2_with (first
    | (refine wpList_load_row rfl 66 _ rfl w.heap.size rfl 66 V (0, 0) _ (by first | exact (Blk.new w _ _) | exact ((Blk.new w _ _).alloc _)) Tryd.underlying66 rfl HI.out ?_))
  have hsz1 : (w.alloc (.cells V 66)).heap.size = w.heap.size + 1 := by simp
  have HO := Lib.hid (own36 (w.alloc (.cells V 66)))
  rw [hsz1] at HO
  go_loopw [3, 8] (fun v i wr => ∃ p : Nat, p ≤ 6 ∧ i = .int .i64 p ∧ Hid (Own wr (w.heap.size + 1) v (rowsT T p)) ∧ Hid (Below w.heap.size w wr) ∧ w.heap.size + 1 ≤ wr.heap.size) (fun _ i _ => 6 - (intOf i).toNat)
  case atStart => exact ⟨0, by omega, rfl, HO, Lib.hid (((Below.refl _ w).alloc (Nat.le_refl _) _).alloc (by simp) _), by simp⟩
  case round =>
    obtain ⟨p, hp, rfl, ho, hbl, hsw⟩ := hrel
    by_cases hlt : p < 6
    · have hp1 : (0 : Int) ≤ (p : Int) := by omega
      have hp2 : (p : Int) < 6 := by omega
      have hrow := HROW.out p hlt
      have HN := Lib.hid (show rowsT T p ++ rowT T p = rowsT T (p + 1) from rfl)
      have hll : (rowsT T p).length ≤ 1048576 := by rw [HLEN.out]; omega
      unfold rowT at HN
      obtain ⟨r0, e0⟩ : ∃ r, T.getD (6 * p) 0 = r := ⟨_, rfl⟩
      obtain ⟨r1, e1⟩ : ∃ r, T.getD (6 * p + 1) 0 = r := ⟨_, rfl⟩
      obtain ⟨r2, e2⟩ : ∃ r, T.getD (6 * p + 2) 0 = r := ⟨_, rfl⟩
      obtain ⟨r3, e3⟩ : ∃ r, T.getD (6 * p + 3) 0 = r := ⟨_, rfl⟩
      obtain ⟨r4, e4⟩ : ∃ r, T.getD (6 * p + 4) 0 = r := ⟨_, rfl⟩
      obtain ⟨r5, e5⟩ : ∃ r, T.getD (6 * p + 5) 0 = r := ⟨_, rfl⟩
      simp only [e0, e1, e2, e3, e4, e5] at hrow HN
      clear e0 e1 e2 e3 e4 e5
      generalize rowsT T p = Rp at *
      go_wp2_with (at_builtin; refine wpList_pushes rfl _ _ rfl _ (w.heap.size + 1) _ Rp [r0, r1, r2, r3, r4, r5] wr.heap.size _ rfl rfl (fun j hj => ?_) (by exact ho.out.alloc _) hll (by simp) (by simp) (by simp; omega) ?_)
      · have hj6 : j = 0 ∨ j = 1 ∨ j = 2 ∨ j = 3 ∨ j = 4 ∨ j = 5 := by simp at hj; omega
        rw [Lib.cell_of_heap (World.alloc_heap_new wr _)]
        rcases hj6 with rfl | rfl | rfl | rfl | rfl | rfl <;> rfl
      intro v2 w3 ho3 hb3 hg3
      have HB3 := Lib.hid ((hbl.out.alloc hbl.out.size (.cells #[.int .i64 r0, .int .i64 r1, .int .i64 r2, .int .i64 r3, .int .i64 r4, .int .i64 r5] 64)).trans (hb3.mono (Nat.le_succ _)))
      have hs3 : w.heap.size + 1 ≤ w3.heap.size := by have := hb3.size; simp at this; omega
      rw [HN.out] at ho3
      clear hb3 hg3
      go_wp2_with fail
      go_roundw
      case rel => exact ⟨p + 1, by omega, by go_num, Lib.hid ho3, HB3, hs3⟩
      case measure => simp [intOf]; omega
    · obtain rfl : p = 6 := by omega
      rw [HALL.out] at ho
      go_wp2_with fail
      go_ret
      exact ⟨_, rfl, ho.out.weak (Nat.le_succ _), hbl.out⟩
end Go.Proofs.YtagniijhbiglaaaDoor
