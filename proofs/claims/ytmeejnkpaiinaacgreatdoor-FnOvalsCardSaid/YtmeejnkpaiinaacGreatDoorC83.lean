/- Sorting words by the library's own text: the partition. -/
import Derived.Test.YtmeejnkpaiinaacGreatDoorC82
namespace Go.Proofs.YtmeejnkpaiinaacGreatDoor
open Go.RowKit Go.Sort
set_option linter.unusedVariables false

theorem scU_end (p : Int → Bool) (d : Array Int) (j i : Nat) (h : ¬ i ≤ j ∨ p d[i]! = false) : scanUp p d j i = i := by
  rw [scanUp, if_neg]
  rcases h with h | h <;> simp [h]
theorem scU_go (p : Int → Bool) (d : Array Int) (j i : Nat) (h : i ≤ j) (hp : p d[i]! = true) : scanUp p d j i = scanUp p d j (i + 1) := by
  conv => lhs; rw [scanUp]
  rw [if_pos (by simp [h, hp])]
theorem scD_end (p : Int → Bool) (d : Array Int) (i j : Nat) (h : ¬ i ≤ j ∨ p d[j]! = false) : scanDown p d i j = j := by
  cases j with
  | zero => rfl
  | succ j => rw [scanDown, if_neg]; rcases h with h | h <;> simp [h]
theorem scD_go (p : Int → Bool) (d : Array Int) (i j : Nat) (h : i ≤ j + 1) (hp : p d[j + 1]! = true) : scanDown p d i (j + 1) = scanDown p d i j := by
  conv => lhs; rw [scanDown]
  rw [if_pos (by simp [h, hp])]
set_option maxRecDepth 100000 in
set_option maxHeartbeats 4000000 in
theorem wPart (g c a b pivot n : Nat) (t : TypeId) (tl : Array Value) (d : Array Int) (w : World) (hd : d.size = n) (hR : RowB w g t tl d) (hap : a ≤ pivot) (hpb : pivot < b) (hab : a + 2 ≤ b) (hb : b ≤ n) (hn : n ≤ 40) :
    Calls Tryz.prog 219 #[.slice (some ⟨g, 0, none⟩) n c, .int .i64 a, .int .i64 b, .int .i64 pivot] w fun e w' =>
      ∃ f : Bool, e = .returned (.tuple #[.int .i64 ((partition ltInt d a b pivot).1 : Nat), .bool f]) ∧ RowB w' g t tl (partition ltInt d a b pivot).2.2 ∧ Trn g w w' := by
  obtain ⟨j0, hj0⟩ : ∃ j0, b = j0 + 1 := ⟨b - 1, by omega⟩
  subst hj0
  obtain ⟨dk, hdk⟩ : ∃ dk, dk = Go.Sort.swp d a pivot := ⟨_, rfl⟩
  have HDK := Lib.hid (show dk.size = n by rw [hdk, size_swp]; exact hd)
  obtain ⟨PL, hPL⟩ : ∃ PL, PL = partLoop ltInt a (a + 1) (j0 + 1 - 1) (Go.Sort.swp d a pivot) := ⟨_, rfl⟩
  have HP := Lib.hid (show partLoop ltInt a (a + 1) j0 dk = PL by rw [hdk, hPL]; rfl)
  have HE1 := Lib.hid (show (partition ltInt d a (j0 + 1) pivot).1 = PL.1 by rw [hPL]; exact partition_fst ltInt d a (j0 + 1) pivot)
  have HE2 := Lib.hid (show (partition ltInt d a (j0 + 1) pivot).2.2 = Go.Sort.swp PL.2 PL.1 a by rw [hPL]; exact partition_arr ltInt d a (j0 + 1) pivot)
  clear hPL
  have HDEF := Lib.hid hdk
  have HR := Lib.hid hR
  have HD0 := Lib.hid hd
  have hca := hR.cell (i := a) (by omega)
  have hcp := hR.cell (i := pivot) (by omega)
  have hfa := hR.free a
  have hfp := hR.free pivot
  obtain ⟨xa0, hxa0⟩ : ∃ x, x = d[a]! := ⟨_, rfl⟩
  obtain ⟨xp0, hxp0⟩ : ∃ x, x = d[pivot]! := ⟨_, rfl⟩
  rw [← hxa0] at hca
  rw [← hxp0] at hcp
  have HXA0 := Lib.hid hxa0
  have HXP0 := Lib.hid hxp0
  obtain ⟨yy, hyy⟩ : ∃ y, (w.setCell ⟨g, a, none⟩ (.int .u32 xp0)).cell? ⟨g, pivot, none⟩ = some y := ⟨_, (hR.set (i := a) (by omega) xp0).cell (i := pivot) (by simp; omega)⟩
  have haI : (0 : Int) ≤ (a : Int) := by omega
  have haN : (a : Int) < (n : Int) := by omega
  have hpI : (0 : Int) ≤ (pivot : Int) := by omega
  have hpN : (pivot : Int) < (n : Int) := by omega
  clear hxa0 hxp0 hdk hR hd
  go_enter Tryz.func219, Tryz.ntmps219
  go_wp2_with fail
  go_region
  all_goals go_wp2_with fail
  go_loopw [10] (fun vi wq => ∃ i : Nat, vi = .int .i64 (i : Nat) ∧ a + 1 ≤ i ∧ i ≤ j0 + 1 ∧ Hid (RowB wq g t tl dk ∧ Trn g w wq) ∧ Hid (scanUp (fun x => ltInt x dk[a]!) dk j0 i = scanUp (fun x => ltInt x dk[a]!) dk j0 (a + 1))) (fun vi _ => j0 + 2 - (intW vi).toNat)
  case atStart => exact ⟨a + 1, by go_num, by omega, by omega, Lib.hid (by rw [HDEF.out, HXA0.out, HXP0.out]; exact ⟨(HR.out.drewN _).swp (by rw [HD0.out]; omega) (by rw [HD0.out]; omega), ((Trn.refl g w).drewN _).swp _ _ _ _⟩), Lib.hid rfl⟩
  case round =>
    obtain ⟨i, rfl, hi0, hi1, HW, HU⟩ := hrel
    have hiI : (0 : Int) ≤ (i : Int) := by omega
    by_cases hij : i ≤ j0
    · have hijI : (i : Int) ≤ (j0 : Int) := by omega
      have hin : (i : Int) < (n : Int) := by omega
      have hci := HW.out.1.cell (i := i) (by rw [HDK.out]; omega)
      have hca := HW.out.1.cell (i := a) (by rw [HDK.out]; omega)
      have hfi := HW.out.1.free i
      have hfa := HW.out.1.free a
      obtain ⟨xi, hxi⟩ : ∃ x, x = dk[i]! := ⟨_, rfl⟩
      obtain ⟨xa, hxa⟩ : ∃ x, x = dk[a]! := ⟨_, rfl⟩
      rw [← hxi] at hci
      rw [← hxa] at hca
      have HXI := Lib.hid hxi
      have HXA := Lib.hid hxa
      clear hxi hxa
      cases hL : ltInt xi xa
      · have HL := Lib.hid hL
        have HI2 := Lib.hid (show scanUp (fun x => ltInt x dk[a]!) dk j0 (a + 1) = i by rw [← HU.out]; exact scU_end _ _ _ _ (.inr (by rw [← HXI.out, ← HXA.out]; exact HL.out)))
        go_wp2_with fail
        go_quiet (first | (go_at_call 217; refine Calls.quiet_of_same (wLessV _ _ _ _ HL.out)))
        go_wp2_with fail
        go_loopw [11] (fun vj wq => ∃ j' : Nat, vj = .int .i64 (j' : Nat) ∧ i ≤ j' + 1 ∧ j' ≤ j0 ∧ Hid (RowB wq g t tl dk ∧ Trn g w wq) ∧ Hid (scanDown (fun x => !ltInt x dk[a]!) dk i j' = scanDown (fun x => !ltInt x dk[a]!) dk i (j0))) (fun vj _ => (intW vj).toNat + 1)
        case atStart => exact ⟨j0, by go_num, by omega, by omega, Lib.hid ⟨HW.out.1.drewN _, HW.out.2.drewN _⟩, Lib.hid rfl⟩
        case round =>
          obtain ⟨j', rfl, hj0, hj1, HW, HD⟩ := hrel
          by_cases hij2 : i ≤ j'
          · obtain ⟨q, rfl⟩ : ∃ q, j' = q + 1 := ⟨j' - 1, by omega⟩
            have hijI2 : (i : Int) ≤ (q : Int) + 1 := by omega
            have hq0 : (0 : Int) ≤ (q : Int) := by omega
            have hqn : (q : Int) + 1 < (n : Int) := by omega
            have hca := HW.out.1.cell (i := a) (by rw [HDK.out]; omega)
            rw [← HXA.out] at hca
            have hci := HW.out.1.cell (i := i) (by rw [HDK.out]; omega)
            rw [← HXI.out] at hci
            have hfi := HW.out.1.free i
            have hfa := HW.out.1.free a
            have hcj := HW.out.1.cell (i := q + 1) (by rw [HDK.out]; omega)
            have hfj := HW.out.1.free (q + 1)
            obtain ⟨xj, hxj⟩ : ∃ x, x = dk[q + 1]! := ⟨_, rfl⟩
            rw [← hxj] at hcj
            have HXJ := Lib.hid hxj
            clear hxj
            cases hL2 : ltInt xj xa
            · clear HL
              have HL := Lib.hid hL2
              go_wp2_with fail
              go_quiet (first | (go_at_call 217; refine Calls.quiet_of_same (wLessV _ _ _ _ HL.out)))
              go_wp2_with fail
              go_roundw
              case rel => exact ⟨q, by go_num, by omega, by omega, Lib.hid ⟨HW.out.1.drewN _, HW.out.2.drewN _⟩, Lib.hid (by rw [← HD.out]; exact (scD_go _ _ _ _ hij2 (by rw [← HXJ.out, ← HXA.out, HL.out]; rfl)).symm)⟩
              case measure => first | (simp [intW]; done) | (simp [intW]; omega)
            · clear HL
              have HL := Lib.hid hL2
              have HD2 := Lib.hid (show scanDown (fun x => !ltInt x dk[a]!) dk i (j0) = q + 1 by rw [← HD.out]; exact scD_end _ _ _ _ (.inr (by rw [← HXJ.out, ← HXA.out, HL.out]; rfl)))
              have hne : i ≠ q + 1 := fun e => by
                have h1 := HXI.out
                have h2 := HXJ.out
                rw [e] at h1
                rw [h1, ← h2, hL2] at hL
                cases hL
              have hgt : ¬ (q : Int) + 1 < (i : Int) := by omega
              go_wp2_with fail
              go_quiet (first | (go_at_call 217; refine Calls.quiet_of_same (wLessV _ _ _ _ HL.out)))
              go_wp2_with fail
              obtain ⟨yy2, hyy2⟩ : ∃ y, ∀ k, ((wr.drewN k).setCell ⟨g, i, none⟩ (.int .u32 xj)).cell? ⟨g, q + 1, none⟩ = some y := ⟨_, fun k => ((HW.out.1.drewN k).set (i := i) (by rw [HDK.out]; omega) xj).cell (i := q + 1) (by simp [HDK.out]; omega)⟩
              go_region
              all_goals go_wp2_with fail

              go_loopw [10, 11] (fun vi vj wq => ∃ (i j : Nat) (dk : Array Int), vi = .int .i64 (i : Nat) ∧ vj = .int .i64 (j : Nat) ∧ a + 1 ≤ i ∧ i ≤ j + 1 ∧ j ≤ j0 ∧ Hid (dk.size = n) ∧ Hid (RowB wq g t tl dk ∧ Trn g w wq) ∧ Hid (partLoop ltInt a i j dk = PL)) (fun vi vj _ => (intW vj).toNat + 2 - (intW vi).toNat)
              case atStart => exact ⟨i + 1, q, Go.Sort.swp dk i (q + 1), by go_num, by go_num, by omega, by omega, by omega, Lib.hid (by rw [size_swp]; exact HDK.out), Lib.hid ⟨by rw [HXJ.out, HXI.out]; exact (HW.out.1.drewN _).swp (by rw [HDK.out]; omega) (by rw [HDK.out]; omega), (HW.out.2.drewN _).swp _ _ _ _⟩, Lib.hid (by
                  have E := HP.out
                  rw [partLoop_eq, HI2.out, HD2.out, if_neg (by omega)] at E
                  exact E)⟩
              case round =>
                clear HW HI2 HD2 HXA HXI HXJ HDK HP HU HD HL
                obtain ⟨i1, j1, dk, rfl, rfl, hb1, hb2, hb3, HDK, HW, HP⟩ := hrel
                go_wp2_with fail
                go_loopw [10] (fun vi wq => ∃ i : Nat, vi = .int .i64 (i : Nat) ∧ i1 ≤ i ∧ i ≤ j1 + 1 ∧ Hid (RowB wq g t tl dk ∧ Trn g w wq) ∧ Hid (scanUp (fun x => ltInt x dk[a]!) dk j1 i = scanUp (fun x => ltInt x dk[a]!) dk j1 (i1))) (fun vi _ => j1 + 2 - (intW vi).toNat)
                case atStart => exact ⟨i1, by go_num, by omega, by omega, Lib.hid (⟨HW.out.1, HW.out.2⟩), Lib.hid rfl⟩
                case round =>
                  obtain ⟨i, rfl, hi0, hi1, HW, HU⟩ := hrel
                  have hiI : (0 : Int) ≤ (i : Int) := by omega
                  by_cases hij : i ≤ j1
                  · have hijI : (i : Int) ≤ (j1 : Int) := by omega
                    have hin : (i : Int) < (n : Int) := by omega
                    have hci := HW.out.1.cell (i := i) (by rw [HDK.out]; omega)
                    have hca := HW.out.1.cell (i := a) (by rw [HDK.out]; omega)
                    have hfi := HW.out.1.free i
                    have hfa := HW.out.1.free a
                    obtain ⟨xi, hxi⟩ : ∃ x, x = dk[i]! := ⟨_, rfl⟩
                    obtain ⟨xa, hxa⟩ : ∃ x, x = dk[a]! := ⟨_, rfl⟩
                    rw [← hxi] at hci
                    rw [← hxa] at hca
                    have HXI := Lib.hid hxi
                    have HXA := Lib.hid hxa
                    clear hxi hxa
                    cases hL : ltInt xi xa
                    · have HL := Lib.hid hL
                      have HI2 := Lib.hid (show scanUp (fun x => ltInt x dk[a]!) dk j1 (i1) = i by rw [← HU.out]; exact scU_end _ _ _ _ (.inr (by rw [← HXI.out, ← HXA.out]; exact HL.out)))
                      go_wp2_with fail
                      go_quiet (first | (go_at_call 217; refine Calls.quiet_of_same (wLessV _ _ _ _ HL.out)))
                      go_wp2_with fail
                      go_loopw [11] (fun vj wq => ∃ j' : Nat, vj = .int .i64 (j' : Nat) ∧ i ≤ j' + 1 ∧ j' ≤ j1 ∧ Hid (RowB wq g t tl dk ∧ Trn g w wq) ∧ Hid (scanDown (fun x => !ltInt x dk[a]!) dk i j' = scanDown (fun x => !ltInt x dk[a]!) dk i (j1))) (fun vj _ => (intW vj).toNat + 1)
                      case atStart => exact ⟨j1, by go_num, by omega, by omega, Lib.hid ⟨HW.out.1.drewN _, HW.out.2.drewN _⟩, Lib.hid rfl⟩
                      case round =>
                        obtain ⟨j', rfl, hj0, hj1, HW, HD⟩ := hrel
                        by_cases hij2 : i ≤ j'
                        · obtain ⟨q, rfl⟩ : ∃ q, j' = q + 1 := ⟨j' - 1, by omega⟩
                          have hijI2 : (i : Int) ≤ (q : Int) + 1 := by omega
                          have hq0 : (0 : Int) ≤ (q : Int) := by omega
                          have hqn : (q : Int) + 1 < (n : Int) := by omega
                          have hca := HW.out.1.cell (i := a) (by rw [HDK.out]; omega)
                          rw [← HXA.out] at hca
                          have hci := HW.out.1.cell (i := i) (by rw [HDK.out]; omega)
                          rw [← HXI.out] at hci
                          have hfi := HW.out.1.free i
                          have hfa := HW.out.1.free a
                          have hcj := HW.out.1.cell (i := q + 1) (by rw [HDK.out]; omega)
                          have hfj := HW.out.1.free (q + 1)
                          obtain ⟨xj, hxj⟩ : ∃ x, x = dk[q + 1]! := ⟨_, rfl⟩
                          rw [← hxj] at hcj
                          have HXJ := Lib.hid hxj
                          clear hxj
                          cases hL2 : ltInt xj xa
                          · clear HL
                            have HL := Lib.hid hL2
                            go_wp2_with fail
                            go_quiet (first | (go_at_call 217; refine Calls.quiet_of_same (wLessV _ _ _ _ HL.out)))
                            go_wp2_with fail
                            go_roundw
                            case rel => exact ⟨q, by go_num, by omega, by omega, Lib.hid ⟨HW.out.1.drewN _, HW.out.2.drewN _⟩, Lib.hid (by rw [← HD.out]; exact (scD_go _ _ _ _ hij2 (by rw [← HXJ.out, ← HXA.out, HL.out]; rfl)).symm)⟩
                            case measure => first | (simp [intW]; done) | (simp [intW]; omega)
                          · clear HL
                            have HL := Lib.hid hL2
                            have HD2 := Lib.hid (show scanDown (fun x => !ltInt x dk[a]!) dk i (j1) = q + 1 by rw [← HD.out]; exact scD_end _ _ _ _ (.inr (by rw [← HXJ.out, ← HXA.out, HL.out]; rfl)))
                            have hne : i ≠ q + 1 := fun e => by
                              have h1 := HXI.out
                              have h2 := HXJ.out
                              rw [e] at h1
                              rw [h1, ← h2, hL2] at hL
                              cases hL
                            have hgt : ¬ (q : Int) + 1 < (i : Int) := by omega
                            go_wp2_with fail
                            go_quiet (first | (go_at_call 217; refine Calls.quiet_of_same (wLessV _ _ _ _ HL.out)))
                            go_wp2_with fail
                            obtain ⟨yy2, hyy2⟩ : ∃ y, ∀ k, ((wr.drewN k).setCell ⟨g, i, none⟩ (.int .u32 xj)).cell? ⟨g, q + 1, none⟩ = some y := ⟨_, fun k => ((HW.out.1.drewN k).set (i := i) (by rw [HDK.out]; omega) xj).cell (i := q + 1) (by simp [HDK.out]; omega)⟩
                            go_region
                            all_goals go_wp2_with fail

                            go_roundw
                            case rel => exact ⟨i + 1, q, Go.Sort.swp dk i (q + 1), by go_num, by go_num, by omega, by omega, by omega, Lib.hid (by rw [size_swp]; exact HDK.out), Lib.hid ⟨by rw [HXJ.out, HXI.out]; exact (HW.out.1.drewN _).swp (by rw [HDK.out]; omega) (by rw [HDK.out]; omega), (HW.out.2.drewN _).swp _ _ _ _⟩, Lib.hid (by
                                have E := HP.out
                                rw [partLoop_eq, HI2.out, HD2.out, if_neg (by omega)] at E
                                exact E)⟩
                            case measure => first | (simp [intW]; done) | (simp [intW]; omega)
                        · have hijI2 : ¬ (i : Int) ≤ (j' : Int) := by omega
                          have hgt : (j' : Int) < (i : Int) := by omega
                          have hj0I : (0 : Int) ≤ (j' : Int) := by omega
                          have hjn : (j' : Int) < (n : Int) := by omega
                          have HD2 := Lib.hid (show scanDown (fun x => !ltInt x dk[a]!) dk i (j1) = j' by rw [← HD.out]; exact scD_end _ _ _ _ (.inl hij2))
                          have hca := HW.out.1.cell (i := a) (by rw [HDK.out]; omega)
                          rw [← HXA.out] at hca
                          have hfa := HW.out.1.free a
                          have hcj := HW.out.1.cell (i := j') (by rw [HDK.out]; omega)
                          have hfj := HW.out.1.free j'
                          obtain ⟨xj, hxj⟩ : ∃ x, x = dk[j']! := ⟨_, rfl⟩
                          rw [← hxj] at hcj
                          have HXJ := Lib.hid hxj
                          clear hxj
                          go_wp2_with fail
                          go_quiet (first | (go_at_call 217; refine Calls.quiet_of_same (wLess _ _ _)))
                          go_wp2_with fail
                          obtain ⟨yy2, hyy2⟩ : ∃ y, ∀ k, ((wr.drewN k).setCell ⟨g, j', none⟩ (.int .u32 xa)).cell? ⟨g, a, none⟩ = some y := ⟨_, fun k => ((HW.out.1.drewN k).set (i := j') (by rw [HDK.out]; omega) xa).cell (i := a) (by simp [HDK.out]; omega)⟩
                          go_region
                          all_goals go_wp2_with fail
                          go_ret2
                          have E := HP.out
                          rw [partLoop_eq, HI2.out, HD2.out, if_pos (by omega)] at E
                          refine ⟨false, by rw [HE1.out, ← E]; rfl, ?_, (HW.out.2.drewN _).swp _ _ _ _⟩
                          rw [HE2.out, ← E]
                          rw [HXJ.out, HXA.out]
                          exact (HW.out.1.drewN _).swp (by rw [HDK.out]; omega) (by rw [HDK.out]; omega)
                    · have HL := Lib.hid hL
                      go_wp2_with fail
                      go_quiet (first | (go_at_call 217; refine Calls.quiet_of_same (wLessV _ _ _ _ HL.out)))
                      go_wp2_with fail
                      go_roundw
                      case rel => exact ⟨i + 1, by go_num, by omega, by omega, Lib.hid ⟨HW.out.1.drewN _, HW.out.2.drewN _⟩, Lib.hid (by rw [← HU.out]; exact (scU_go _ _ _ _ hij (by rw [← HXI.out, ← HXA.out]; exact HL.out)).symm)⟩
                      case measure => first | (simp [intW]; done) | (simp [intW]; omega)
                  · have hijI : ¬ (i : Int) ≤ (j1 : Int) := by omega
                    have hgt : (j1 : Int) < (i : Int) := by omega
                    have hj0I : (0 : Int) ≤ (j1 : Int) := by omega
                    have hjn : (j1 : Int) < (n : Int) := by omega
                    have HI2 := Lib.hid (show scanUp (fun x => ltInt x dk[a]!) dk j1 (i1) = i by rw [← HU.out]; exact scU_end _ _ _ _ (.inl hij))
                    have HD2 := Lib.hid (show scanDown (fun x => !ltInt x dk[a]!) dk i (j1) = j1 from scD_end _ _ _ _ (.inl hij))
                    have hcj := HW.out.1.cell (i := j1) (by rw [HDK.out]; omega)
                    have hca := HW.out.1.cell (i := a) (by rw [HDK.out]; omega)
                    have hfj := HW.out.1.free (j1)
                    have hfa := HW.out.1.free a
                    obtain ⟨xj, hxj⟩ : ∃ x, x = dk[j1]! := ⟨_, rfl⟩
                    obtain ⟨xa, hxa⟩ : ∃ x, x = dk[a]! := ⟨_, rfl⟩
                    rw [← hxj] at hcj
                    rw [← hxa] at hca
                    have HXJ := Lib.hid hxj
                    have HXA := Lib.hid hxa
                    clear hxj hxa
                    go_wp2_with fail
                    go_quiet (first | (go_at_call 217; refine Calls.quiet_of_same (wLess _ _ _)))
                    go_wp2_with fail
                    refine wp_loop_rounds 1 ?_
                    rw [rounds_succ]
                    go_wp2_with fail
                    go_quiet (first | (go_at_call 217; refine Calls.quiet_of_same (wLess _ _ _)))
                    go_wp2_with fail
                    obtain ⟨yy2, hyy2⟩ : ∃ y, ∀ k, ((wr.drewN k).setCell ⟨g, j1, none⟩ (.int .u32 xa)).cell? ⟨g, a, none⟩ = some y := ⟨_, fun k => ((HW.out.1.drewN k).set (i := j1) (by rw [HDK.out]; omega) xa).cell (i := a) (by simp [HDK.out]; omega)⟩
                    go_region
                    all_goals go_wp2_with fail
                    go_ret2
                    have E := HP.out
                    rw [partLoop_eq, HI2.out, HD2.out, if_pos (by omega)] at E
                    refine ⟨false, by rw [HE1.out, ← E]; rfl, ?_, (HW.out.2.drewN _).swp _ _ _ _⟩
                    rw [HE2.out, ← E]
                    rw [HXJ.out, HXA.out]
                    exact (HW.out.1.drewN _).swp (by rw [HDK.out]; omega) (by rw [HDK.out]; omega)
          · have hijI2 : ¬ (i : Int) ≤ (j' : Int) := by omega
            have hgt : (j' : Int) < (i : Int) := by omega
            have hj0I : (0 : Int) ≤ (j' : Int) := by omega
            have hjn : (j' : Int) < (n : Int) := by omega
            have HD2 := Lib.hid (show scanDown (fun x => !ltInt x dk[a]!) dk i (j0) = j' by rw [← HD.out]; exact scD_end _ _ _ _ (.inl hij2))
            have hca := HW.out.1.cell (i := a) (by rw [HDK.out]; omega)
            rw [← HXA.out] at hca
            have hfa := HW.out.1.free a
            have hcj := HW.out.1.cell (i := j') (by rw [HDK.out]; omega)
            have hfj := HW.out.1.free j'
            obtain ⟨xj, hxj⟩ : ∃ x, x = dk[j']! := ⟨_, rfl⟩
            rw [← hxj] at hcj
            have HXJ := Lib.hid hxj
            clear hxj
            go_wp2_with fail
            go_quiet (first | (go_at_call 217; refine Calls.quiet_of_same (wLess _ _ _)))
            go_wp2_with fail
            obtain ⟨yy2, hyy2⟩ : ∃ y, ∀ k, ((wr.drewN k).setCell ⟨g, j', none⟩ (.int .u32 xa)).cell? ⟨g, a, none⟩ = some y := ⟨_, fun k => ((HW.out.1.drewN k).set (i := j') (by rw [HDK.out]; omega) xa).cell (i := a) (by simp [HDK.out]; omega)⟩
            go_region
            all_goals go_wp2_with fail
            go_ret2
            have E := HP.out
            rw [partLoop_eq, HI2.out, HD2.out, if_pos (by omega)] at E
            refine ⟨true, by rw [HE1.out, ← E]; rfl, ?_, (HW.out.2.drewN _).swp _ _ _ _⟩
            rw [HE2.out, ← E]
            rw [HXJ.out, HXA.out]
            exact (HW.out.1.drewN _).swp (by rw [HDK.out]; omega) (by rw [HDK.out]; omega)
      · have HL := Lib.hid hL
        go_wp2_with fail
        go_quiet (first | (go_at_call 217; refine Calls.quiet_of_same (wLessV _ _ _ _ HL.out)))
        go_wp2_with fail
        go_roundw
        case rel => exact ⟨i + 1, by go_num, by omega, by omega, Lib.hid ⟨HW.out.1.drewN _, HW.out.2.drewN _⟩, Lib.hid (by rw [← HU.out]; exact (scU_go _ _ _ _ hij (by rw [← HXI.out, ← HXA.out]; exact HL.out)).symm)⟩
        case measure => first | (simp [intW]; done) | (simp [intW]; omega)
    · have hijI : ¬ (i : Int) ≤ (j0 : Int) := by omega
      have hgt : (j0 : Int) < (i : Int) := by omega
      have hj0I : (0 : Int) ≤ (j0 : Int) := by omega
      have hjn : (j0 : Int) < (n : Int) := by omega
      have HI2 := Lib.hid (show scanUp (fun x => ltInt x dk[a]!) dk j0 (a + 1) = i by rw [← HU.out]; exact scU_end _ _ _ _ (.inl hij))
      have HD2 := Lib.hid (show scanDown (fun x => !ltInt x dk[a]!) dk i (j0) = j0 from scD_end _ _ _ _ (.inl hij))
      have hcj := HW.out.1.cell (i := j0) (by rw [HDK.out]; omega)
      have hca := HW.out.1.cell (i := a) (by rw [HDK.out]; omega)
      have hfj := HW.out.1.free (j0)
      have hfa := HW.out.1.free a
      obtain ⟨xj, hxj⟩ : ∃ x, x = dk[j0]! := ⟨_, rfl⟩
      obtain ⟨xa, hxa⟩ : ∃ x, x = dk[a]! := ⟨_, rfl⟩
      rw [← hxj] at hcj
      rw [← hxa] at hca
      have HXJ := Lib.hid hxj
      have HXA := Lib.hid hxa
      clear hxj hxa
      go_wp2_with fail
      go_quiet (first | (go_at_call 217; refine Calls.quiet_of_same (wLess _ _ _)))
      go_wp2_with fail
      refine wp_loop_rounds 1 ?_
      rw [rounds_succ]
      go_wp2_with fail
      go_quiet (first | (go_at_call 217; refine Calls.quiet_of_same (wLess _ _ _)))
      go_wp2_with fail
      obtain ⟨yy2, hyy2⟩ : ∃ y, ∀ k, ((wr.drewN k).setCell ⟨g, j0, none⟩ (.int .u32 xa)).cell? ⟨g, a, none⟩ = some y := ⟨_, fun k => ((HW.out.1.drewN k).set (i := j0) (by rw [HDK.out]; omega) xa).cell (i := a) (by simp [HDK.out]; omega)⟩
      go_region
      all_goals go_wp2_with fail
      go_ret2
      have E := HP.out
      rw [partLoop_eq, HI2.out, HD2.out, if_pos (by omega)] at E
      refine ⟨true, by rw [HE1.out, ← E]; rfl, ?_, (HW.out.2.drewN _).swp _ _ _ _⟩
      rw [HE2.out, ← E]
      rw [HXJ.out, HXA.out]
      exact (HW.out.1.drewN _).swp (by rw [HDK.out]; omega) (by rw [HDK.out]; omega)
end Go.Proofs.YtmeejnkpaiinaacGreatDoor
