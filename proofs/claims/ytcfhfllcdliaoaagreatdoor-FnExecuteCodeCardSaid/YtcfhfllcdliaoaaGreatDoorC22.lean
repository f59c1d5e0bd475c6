/- Contracts of the model's exported functions of chapter 2. -/
import Derived.Test.YtcfhfllcdliaoaaGreatDoorQ2
import Derived.Test.YtcfhfllcdliaoaaGreatDoorQ5
namespace Go.Proofs.YtcfhfllcdliaoaaGreatDoor
open Go.RowKit
set_option linter.unusedVariables false

theorem l2Digit_calls (n : Int) (w : World) :
    Calls Tryz.prog 240 #[.int .i64 n] w fun e w' => e = .returned (.bool (digB n)) ∧ w = w' := by
  rcases isD_or n with h | h
  · rw [(digB_iff n).2 h]; exact l2Digit_ok n w h
  · rw [(digB_no n).2 h]; exact l2Digit_no n w h
theorem six_cells2 {w : World} {A : Option Addr} {k : IntKind} {B : Nat} {d0 d1 d2 d3 d4 d5 : Int} (hr : Rds w B k A [d0, d1, d2, d3, d4, d5]) : ∃ b o, A = some ⟨b, o, none⟩ ∧ b < B ∧
    w.cell? ⟨b, o, none⟩ = some (.int k d0) ∧ w.cell? ⟨b, o + 1, none⟩ = some (.int k d1) ∧ w.cell? ⟨b, o + 2, none⟩ = some (.int k d2) ∧ w.cell? ⟨b, o + 3, none⟩ = some (.int k d3) ∧ w.cell? ⟨b, o + 4, none⟩ = some (.int k d4) ∧ w.cell? ⟨b, o + 5, none⟩ = some (.int k d5) := by
  rcases hr with h | ⟨b, o, h1, h2, h3⟩
  · simp at h
  · exact ⟨b, o, h1, h2, h3 0 (by simp), h3 1 (by simp), h3 2 (by simp), h3 3 (by simp), h3 4 (by simp), h3 5 (by simp)⟩
set_option maxHeartbeats 400000 in
theorem l2Same_calls (A B : Option Addr) (c d : Nat) (xs ys : List Int) (w : World) (ha : Rds w w.heap.size .i64 A xs) (hb : Rds w w.heap.size .i64 B ys) (hx : xs.length = 6) (hy : ys.length = 6) :
    Calls Tryz.prog 229 #[.slice A 6 c, .slice B 6 d] w fun e w' => e = .returned (.bool (eqR xs ys)) ∧ ∃ k, w' = w.drewN k := by
  have HX := Lib.hid hx
  have HY := Lib.hid hy
  clear hx hy
  go_enter Tryz.func229, Tryz.ntmps229
  go_wp2
  go_loopw [5] (fun i wr => ∃ k : Nat, k ≤ 6 ∧ i = .int .i64 k ∧ Hid (xs.take k = ys.take k) ∧ ∃ m, wr = w.drewN m) (fun i _ => 6 - (intOf i).toNat)
  case atStart => exact ⟨0, Nat.zero_le _, rfl, Lib.hid (by simp), 0, rfl⟩
  case round =>
    obtain ⟨k, hk, rfl, ht, m, rfl⟩ := hrel
    by_cases hlt : k < 6
    · obtain ⟨b1, o1, rfl, _, c1⟩ := ha.at_ (j := k) (by rw [HX.out]; omega)
      obtain ⟨b2, o2, rfl, _, c2⟩ := hb.at_ (j := k) (by rw [HY.out]; omega)
      have k0 : 0 ≤ (k : Int) := by omega
      have k1 : (k : Int) < 6 := by omega
      by_cases he : xs.getD k 0 = ys.getD k 0
      · have HT := Lib.hid (eqL_step xs ys k (by rw [HX.out]; omega) (by rw [HX.out, HY.out]) he ht.out)
        have e1 : (xs.getD k 0 != ys.getD k 0) = false := by rw [he]; simp
        clear ht
        generalize xs.getD k 0 = x at *
        generalize ys.getD k 0 = y at *
        clear he
        go_wp2
        go_quiet (fail)
        go_wp2
        go_roundw
        case rel => exact ⟨k + 1, by omega, by go_num, HT, _, rfl⟩
        case measure => simp [intOf]; omega
      · have HT := Lib.hid (show eqR xs ys = false from eqL_no xs ys k he)
        have e1 : (xs.getD k 0 != ys.getD k 0) = true := by simpa using he
        clear ht
        generalize xs.getD k 0 = x at *
        generalize ys.getD k 0 = y at *
        clear he
        go_wp2
        go_quiet (fail)
        go_wp2
        go_ret
        exact ⟨ret_b HT.out.symm, _, World.drewN_drewN _ _ _⟩
    · go_wp2
      go_ret
      exact ⟨ret_b (show eqR xs ys = true from eqL_yes xs ys k (by rw [HX.out, HY.out]) (by rw [HX.out]; omega) ht.out).symm, m, rfl⟩
set_option maxHeartbeats 2000000 in
theorem sHexIn_calls (A : Option Addr) (c : Nat) (xs : List Int) (w : World) (ha : Rds w w.heap.size .i64 A xs) (hx : xs.length ≤ maxLen) :
    Calls Tryz.prog 198 #[.slice A xs.length c] w fun e w' => e = .returned (.bool (hIn xs)) ∧ Below w.heap.size w w' := by
  rcases hb : rowB xs with _ | _
  · have HW := Lib.hid (show hIn xs = false by simp [hIn, hb])
    have HR := Lib.hid (fun W (h : Rds W W.heap.size .i64 A xs) => l2Row_calls A c xs W h hx)
    rw [hb] at HR
    clear hb hx
    go_enter Tryz.func198, Tryz.ntmps198
    go_wp2_with fail
    go_quiet ((go_at_call 228; exact quiet_left (HR.out _ ha)))
    go_wp2_with fail
    go_ret
    exact ⟨ret_b HW.out.symm, below_drewN (Below.refl _ _) _⟩
  · obtain ⟨d0, d1, d2, d3, d4, d5, rfl, h0, h1, h2, h3, h4, h5⟩ := ((rowB_iff xs).1 hb).six
    have HW := Lib.hid (show hIn [d0, d1, d2, d3, d4, d5] = eqR [d0, d1, d2, d3, d4, d5] (hexRow d0 d1 d2) by simp [hIn, hb, hexB])
    have HR := Lib.hid (fun W (h : Rds W W.heap.size .i64 A [d0, d1, d2, d3, d4, d5]) => l2Row_calls A c [d0, d1, d2, d3, d4, d5] W h hx)
    rw [hb] at HR
    obtain ⟨B, o, rfl, hB, c0, c1, c2, c3, c4, c5⟩ := six_cells2 ha
    have ha1 : Rds w.drew w.drew.heap.size .i64 (some ⟨B, o, none⟩) [d0, d1, d2, d3, d4, d5] := ha
    clear hb hx
    show Calls _ _ #[.slice _ 6 _] _ _
    go_enter Tryz.func198, Tryz.ntmps198
    go_wp2_with fail
    go_region_held3 (fun w' => w'.cell? ⟨B, o, none⟩ = some (.int .i64 d0) ∧ w'.cell? ⟨B, o + 1, none⟩ = some (.int .i64 d1) ∧ w'.cell? ⟨B, o + 2, none⟩ = some (.int .i64 d2))
      (first | go_keep | (go_split_ands; refine ⟨?_, ?_, ?_⟩ <;> exact (hb2.cell (p := ⟨B, _, none⟩) hB).trans (by assumption)))
      (first
        | (go_at_call 228; refine (HR.out _ ?_).mono ?_; exact ha; rintro e w' ⟨rfl, rfl⟩)
        | (go_at_call 76; refine (l2Of_calls _ _ _ _ h0.1 h0.2 h1.1 h1.2 h2.1 h2.2).mono ?_; rintro e w2 ⟨v, rfl, o2, hb2⟩; obtain ⟨A2, e2, hv⟩ := o2.slice; have hv2 : v = .slice A2 6 e2 := hv; clear hv; subst hv2)
        | (go_at_call 229; refine (l2Same_calls _ _ _ _ [d0, d1, d2, d3, d4, d5] (hexRow d0 d1 d2) _ ?_ ?_ rfl rfl).mono ?_; exact (ha1.below hb2).more hb2.size; exact o2.rds; rintro e w3 ⟨rfl, k3, rfl⟩))
    repeat go_step
    go_ret
    exact ⟨ret_b HW.out.symm, below_drewN ((Below.refl w.heap.size w).drew.trans hb2) _⟩
theorem l2Times_d (a b : Int) (w : World) (ha : IsD a) (hb : IsD b) : Calls Tryz.prog 116 #[.int .i64 a, .int .i64 b] w fun e w' => e = .returned (.int .i64 (mulD a b)) ∧ w = w' := l2Times_calls a b w ha.1 ha.2 hb.1 hb.2
end Go.Proofs.YtcfhfllcdliaoaaGreatDoor
