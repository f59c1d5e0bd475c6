/- Planes of the program: bases, lines through points, the lines. -/
import Derived.Test.YtmeejnkpaiinaacGreatDoorM29
import Derived.Test.YtmeejnkpaiinaacGreatDoorC40
import Derived.Test.YtmeejnkpaiinaacGreatDoorC31
import Derived.Laws.Rows
import Derived.Laws.Tables
import Derived.Test.YtmeejnkpaiinaacGreatDoorQ7
namespace Go.Proofs.YtmeejnkpaiinaacGreatDoor
open Go.RowKit Go.Shelf
set_option linter.unusedVariables false
attribute [local irreducible] octS cN octF syn

/-- The cells of a list of lines. -/
def V21 (L : List Int) : Array Value := L.toArray.map (Value.int .u32)
theorem V21_size (L : List Int) : (V21 L).size = L.length := by simp [V21]
theorem list21 (L : List Int) (h : L.length = 21) : ∃ x0 x1 x2 x3 x4 x5 x6 x7 x8 x9 x10 x11 x12 x13 x14 x15 x16 x17 x18 x19 x20, L = [x0, x1, x2, x3, x4, x5, x6, x7, x8, x9, x10, x11, x12, x13, x14, x15, x16, x17, x18, x19, x20] := by
  match L, h with
  | [x0, x1, x2, x3, x4, x5, x6, x7, x8, x9, x10, x11, x12, x13, x14, x15, x16, x17, x18, x19, x20], _ => exact ⟨x0, x1, x2, x3, x4, x5, x6, x7, x8, x9, x10, x11, x12, x13, x14, x15, x16, x17, x18, x19, x20, rfl⟩
theorem lns_W {B : Nat} (hB : IsBase B) (j : Nat) (hj : j < 21) : IsW ((lns (B : Int)).getD j 0) := by
  have hl := lns_len hB
  have e : (lns (B : Int)).getD j 0 ∈ lns (B : Int) := by rw [← getD_at _ j (by omega)]; exact List.getElem_mem _
  obtain ⟨l, h1, h2⟩ := (lns_mem hB _).1 e
  have := (h1.facts hB).1
  rw [h2]
  exact ⟨by omega, by omega⟩
theorem llInfo : (Tryz.prog.info? 65).map (·.size) = some 21 := by kernel_rfl
theorem idx21 (L : List Int) (h : L.length = 21) (k : Nat) (hk : k < 21) (W : World) : (Instr.index 65 (.agg (V21 L)) (.int .i64 (k : Int))).run Tryz.prog W = .ok (.int .u32 (L.getD k 0)) W := by
  obtain ⟨x0, x1, x2, x3, x4, x5, x6, x7, x8, x9, x10, x11, x12, x13, x14, x15, x16, x17, x18, x19, x20, rfl⟩ := list21 L h
  match k, hk with
  | 0, _ => exact (show _ = _ by kernel_rfl)
  | 1, _ => exact (show _ = _ by kernel_rfl)
  | 2, _ => exact (show _ = _ by kernel_rfl)
  | 3, _ => exact (show _ = _ by kernel_rfl)
  | 4, _ => exact (show _ = _ by kernel_rfl)
  | 5, _ => exact (show _ = _ by kernel_rfl)
  | 6, _ => exact (show _ = _ by kernel_rfl)
  | 7, _ => exact (show _ = _ by kernel_rfl)
  | 8, _ => exact (show _ = _ by kernel_rfl)
  | 9, _ => exact (show _ = _ by kernel_rfl)
  | 10, _ => exact (show _ = _ by kernel_rfl)
  | 11, _ => exact (show _ = _ by kernel_rfl)
  | 12, _ => exact (show _ = _ by kernel_rfl)
  | 13, _ => exact (show _ = _ by kernel_rfl)
  | 14, _ => exact (show _ = _ by kernel_rfl)
  | 15, _ => exact (show _ = _ by kernel_rfl)
  | 16, _ => exact (show _ = _ by kernel_rfl)
  | 17, _ => exact (show _ = _ by kernel_rfl)
  | 18, _ => exact (show _ = _ by kernel_rfl)
  | 19, _ => exact (show _ = _ by kernel_rfl)
  | 20, _ => exact (show _ = _ by kernel_rfl)
  | n + 21, h => exact absurd h (by omega)
set_option maxRecDepth 100000 in
set_option maxHeartbeats 2000000 in
theorem through_calls (L : List Int) (hl : L.length = 21) (hw : ∀ j, j < 21 → IsW (L.getD j 0)) (T : Int) (hT : IsW T) (w : World) :
    Calls Tryz.prog 55 #[.agg (V21 L), .int .u32 T] w fun e w' => ∃ v, e = .returned v ∧ Own w' w.heap.size v (L.filter (hasB T)) ∧ Below w.heap.size w w' := by
  have HI := Lib.hid (show (Tryz.prog.info? 65).map (·.size) = some (V21 L).size by rw [V21_size, hl]; exact llInfo)
  have HIDX := Lib.hid (fun k hk W => idx21 L hl k hk W)
  have HWL := Lib.hid hw
  have HTK := Lib.hid (fun k (hk : k < 21) => show (L.take (k + 1)).filter (hasB T) = if hasB T (L.getD k 0) then (L.take k).filter (hasB T) ++ [L.getD k 0] else (L.take k).filter (hasB T) by rw [tk_succ L k (by omega), filter_snoc])
  have HLE := Lib.hid (fun k => show ((L.take k).filter (hasB T)).length ≤ 21 by
    have h1 := List.length_filter_le (hasB T) (L.take k)
    have h2 : (L.take k).length ≤ L.length := by rw [List.length_take]; omega
    omega)
  have HALL := Lib.hid (show L.take 21 = L from List.take_of_length_le (by omega))
  have HZ := Lib.hid (show (L.take 0).filter (hasB T) = [] from rfl)
  clear hw hl
  generalize hV : V21 L = V at *
  clear hV
  go_enter Tryz.func55, Tryz.ntmps55
  go_wp2_with (first
    | (refine wpList_load_row rfl 65 _ rfl w.heap.size rfl 65 V (0, 0) _ (Blk.new w _ _) Tryz.underlying65 rfl HI.out ?_))
  go_loopw [5, 9] (fun v i wr => ∃ p : Nat, p ≤ 21 ∧ i = .int .i64 p ∧ Hid (Own wr w.heap.size v ((L.take p).filter (hasB T))) ∧ Hid (Below w.heap.size w wr)) (fun _ i _ => 21 - (intOf i).toNat)
  case atStart => exact ⟨0, by omega, rfl, Lib.hid (by rw [HZ.out]; exact Own.nil_ _ _), Lib.hid ((Below.refl _ w).alloc (Nat.le_refl _) _)⟩
  case round =>
    obtain ⟨p, hp, rfl, ho, hbl⟩ := hrel
    by_cases hlt : p < 21
    · have hidx := HIDX.out p hlt
      have wx := HWL.out p hlt
      have HS := Lib.hid (HTK.out p hlt)
      have hle := HLE.out p
      have hwx : IntKind.i64.wrap (L.getD p 0) = L.getD p 0 := by have := wx.1; have := wx.2; rw [IntKind.wrap_i64]; omega
      have hp1 : (0 : Int) ≤ (p : Int) := by omega
      have hp2 : (p : Int) < 21 := by omega
      have hsz := hbl.out.size
      generalize L.getD p 0 = x at *
      generalize (L.take p).filter (hasB T) = M at *
      cases hP : hasB T x
      · have HS2 := Lib.hid (show (L.take (p + 1)).filter (hasB T) = M by rw [HS.out, hP]; rfl)
        unfold hasB at hP
        go_wp2_with (go_at_call 72; refine (word_hasAll x T _ wx hT).mono ?_; rintro e w' ⟨rfl, rfl⟩)
        go_roundw
        case rel => exact ⟨p + 1, by omega, by go_num, by rw [HS2.out]; exact ho, hbl⟩
        case measure => simp [intOf]; omega
      · have HS2 := Lib.hid (show (L.take (p + 1)).filter (hasB T) = M ++ [x] by rw [HS.out, hP]; rfl)
        unfold hasB at hP
        go_wp2_with (first
          | (go_at_call 72; refine (word_hasAll x T _ wx hT).mono ?_; rintro e w' ⟨rfl, rfl⟩)
          | (at_builtin; refine wpList_pushAt rfl _ _ rfl _ w.heap.size _ _ _ _ rfl rfl (by exact ho.out) (by omega) (by omega) ?_; intro v2 w2 ho2 hb2 hg2 hat))
        go_roundw
        case rel => exact ⟨p + 1, by omega, by go_num, by rw [HS2.out]; exact Lib.hid ho2, Lib.hid (hbl.out.trans hb2)⟩
        case measure => simp [intOf]; omega
    · obtain rfl : p = 21 := by omega
      rw [HALL.out] at ho
      go_wp2_with fail
      go_ret
      exact ⟨_, rfl, ho.out, hbl.out⟩
theorem baseFrom_yes (B : Nat) (hB : IsBase B) (w : World) : Calls Tryz.prog 70 #[.int .i64 (B : Int)] w fun e w' => e = .returned (.tuple #[.int .u32 (B : Int), .bool true]) ∧ ∃ k, w' = w.drewN k := by
  have wB : IsW (B : Int) := ⟨by omega, by have := hB.1; omega⟩
  have H3 := Lib.hid (show wt (B : Int) = 3 by rw [wt_pop, hB.2]; rfl)
  generalize (B : Int) = b at *
  go_enter Tryz.func70, Tryz.ntmps70
  go_wp2_with (first
    | (go_at_call 68; refine (wordFrom_ok b _ wB.1 wB.2).mono ?_; rintro e w' ⟨rfl, rfl⟩)
    | (go_at_call 69; refine (word_weight b _ wB.1 wB.2).mono ?_; rintro e w' ⟨he, kk, rfl⟩; rw [H3.out] at he; subst he))
  go_ret2
  exact ⟨rfl, kk, rfl⟩
theorem baseFrom_no (b : Int) (h : baseB b = false) (w : World) : Calls Tryz.prog 70 #[.int .i64 b] w fun e w' => e = .returned (.tuple #[.int .u32 0, .bool false]) ∧ ∃ k, w' = w.drewN k := by
  rcases hw : wordB b with _ | _
  · have hn := (wordB_no b).1 hw
    clear hw h
    go_enter Tryz.func70, Tryz.ntmps70
    go_wp2_with (first
      | (go_at_call 68; refine (wordFrom_no b _ hn).mono ?_; rintro e w' ⟨rfl, rfl⟩))
    go_ret2
    exact ⟨rfl, 0, rfl⟩
  · have wB : IsW b := (wordB_iff b).1 hw
    have h3 : ¬ wt b = 3 := by simpa [baseB, hw] using h
    have h31 : (wt b != 3) = true := by simp [h3]
    clear hw h h3
    generalize hq : wt b = q at *
    have HQ := Lib.hid hq
    clear hq
    go_enter Tryz.func70, Tryz.ntmps70
    go_wp2_with (first
      | (go_at_call 68; refine (wordFrom_ok b _ wB.1 wB.2).mono ?_; rintro e w' ⟨rfl, rfl⟩)
      | (go_at_call 69; refine (word_weight b _ wB.1 wB.2).mono ?_; rintro e w' ⟨he, kk, rfl⟩; rw [HQ.out] at he; subst he))
    go_ret2
    exact ⟨rfl, kk, rfl⟩
end Go.Proofs.YtmeejnkpaiinaacGreatDoor
