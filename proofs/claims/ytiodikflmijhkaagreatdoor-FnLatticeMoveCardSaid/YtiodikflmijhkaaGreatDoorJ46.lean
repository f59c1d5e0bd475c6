/- Joined texts: G19 G22. -/
import Derived.Test.YtiodikflmijhkaaGreatDoorJ45
import Derived.Test.YtiodikflmijhkaaGreatDoorJ29
import Derived.Test.YtiodikflmijhkaaGreatDoorJ13
import Derived.Test.YtiodikflmijhkaaGreatDoorJ41
section
set_option linter.unusedSectionVars false
set_option linter.unusedVariables false
set_option linter.unusedSimpArgs false
namespace Go.Proofs.YtiodikflmijhkaaGreatDoor
open Go Go.Conc Go.ConcN Go.RowKit Go.Conc.Lib Go.ConcR.Gen Go.ConcN.Gen Farm Vow
open Go.ConcR (KK wgBlock WgAt stA smA rd wr mk Payload Aside2 DC0)
attribute [local irreducible] cN syn

noncomputable def bodyL : Code := Tryz.f5.body.getD .skip
abbrev b6 : Frame := base 5
theorem nmVF : (Tryz.f15.name == "runtime.NumGoroutine") = false := by kernel_rfl
theorem nmPF : (Tryz.f16.name == "runtime.NumGoroutine") = false := by kernel_rfl
theorem nmMV : (Tryz.f17.name == "runtime.NumGoroutine") = false := by kernel_rfl
theorem permB_rng {ys : List Int} (h : permB ys = true) : ∀ x ∈ ys, 0 ≤ x ∧ x < 24 := fun x hx => by
  have hl := permB_len h
  obtain ⟨i, hi, e⟩ := List.getElem_of_mem hx
  obtain ⟨h1, h2⟩ := permB_at h i (by omega)
  rw [List.getD_eq_getElem?_getD, List.getElem?_eq_getElem hi, Option.getD_some, e] at h1
  omega
theorem mvL_len (xs ys : List Int) : (mvL xs ys).length = 24 := accL_len xs ys 4
theorem z24_len : z24.length = 24 := rfl
theorem below_setRow {B g : Nat} {w0 w : World} {vs : Array Value} (h : Below B w0 w) (hg : B ≤ g) : Below B w0 (w.setRow g vs) :=
  h.trans ⟨rfl, rfl, rfl, by simp, fun k hk => setRow_other w g k vs (by omega)⟩
theorem nmLI : (Tryz.f18.name == "runtime.NumGoroutine") = false := by kernel_rfl

section
variable {st : MSt} {D : Nat → Prop} {Fin : Value → World → Prop} {w0 : World} {A A2 : Option Addr} {c1 c2 : Nat} {xs ys : List Int} {c : Frame} {cs : List Frame}

set_option maxRecDepth 100000 in
set_option maxHeartbeats 16000000 in
theorem latticeMove_done (hP : PH st D w0) (hw : HeapOk (scL D) w0) (ha : Rds w0 w0.heap.size .i64 A xs) (hx : xs.length ≤ maxLen) (ha2 : Rds w0 w0.heap.size .i64 A2 ys) (hy : ys.length ≤ maxLen)
    {K : Nat → Prop} (hKn : ∀ b, K b → ¬ D b ∧ IntRow w0 b) (hKg : ∀ g, gL g = true → K g) (okA : ∀ x, A = some x → K x.block) (okA2 : ∀ x, A2 = some x → K x.block) (hgs : st.gs + 4 < 1000)
    (hno : (vecB xs && permB ys) = false → ∀ w1, Below w0.heap.size w0 w1 → HeapOk (scL D) w1 → Done Tryz.prog 71 Fin st (G (c.finish (.tuple #[.slice none 0 0, .bool false])) cs) w1)
    (hyes : (vecB xs && permB ys) = true → ∀ st1 D1 w1 g, PH st1 D1 w1 → HeapOk (scL D1) w1 → (∀ b, K b → ¬ D1 b) → st1.gs = st.gs + 4 → (∀ b, st1.grp b → b < w0.heap.size → st.grp b) → Below w0.heap.size w0 w1 → w0.heap.size ≤ g → w1.heap[g]? = some (.cells (VL (lmL xs ys 24)) 36) → ¬ D1 g → Done Tryz.prog 71 Fin st1 (G (c.finish (.tuple #[.slice (some ⟨g, 0, none⟩) 24 24, .bool true])) cs) w1)
    : Done Tryz.prog 71 Fin st (G (b6.at ⟨#[.slice A xs.length c1, .slice A2 ys.length c2, undef, undef, undef, undef, undef, undef, undef, undef, undef, undef, undef, undef, undef, undef, undef, undef, undef, undef, undef, undef, undef, undef, undef, undef, undef], []⟩ [.code bodyL]) (c :: cs)) w0 := by
  have ok1 : Ok (scL D) (.slice A xs.length c1) := .slice _ _ _ fun x hx => (hKn _ (okA x hx)).1
  have ok2 : Ok (scL D) (.slice A2 ys.length c2) := .slice _ _ _ fun x hx => (hKn _ (okA2 x hx)).1
  have hF : (Below w0.heap.size w0 w0 ∧ HeapOk (scL D) w0) := ⟨Below.refl _ _, hw⟩
  have fm : ∀ {w w₁ : World}, (Below w0.heap.size w0 w ∧ HeapOk (scL D) w) → ROf 71 st w w₁ → (Below w0.heap.size w0 w₁ ∧ HeapOk (scL D) w₁) := fun hh rr => at_rely (F := fun w => (Below w0.heap.size w0 w ∧ HeapOk (scL D) w)) (fun w d h => ⟨below_at h.1, heapOk_at h.2⟩) hP.tag hh rr
  simp only [bodyL, Tryz.f5, Option.getD_some]
  refine done_silent (n := 12) hP.tag hP.d ?_
  u_c stepG_seq fm hF
  u_reg fm hF
  u_op fm hF
  u_op fm hF
  u_c stepG_region_end fm hF
  u_c stepG_seq fm hF
  u_reg fm hF
  u_op fm hF
  refine Goes.stop (fun w₁ h₁ => ?_)
  replace hF := fm hF h₁
  clear h₁
  refine ⟨rfl, done_callC (S := scL D) (vs := #[.slice A xs.length c1]) (R := fun T d e w' => e = .returned (.tuple #[.agg (VL (vcL xs)), .bool (vecB xs)]) ∧ Below (tp w₁ T d).heap.size (tp w₁ T d) w') (scopeL hP.gb) hP.tag hP.may rfl rfl (by k_ne) rfl Tryz.func15 nmVF rfl (show fL 15 = true by kernel_rfl) (by simp [Act.eval]) (one_ok ok1) hF.2 (fun T d => vecFrom_calls A c1 xs (tp w₁ T d) ((ha.below hF.1).more hF.1.size) hx) (fun T d e w' h => ⟨_, h.1⟩) fun v w2 T d T' d' hr hw2 htp => ?_⟩
  obtain ⟨he, hb⟩ := hr
  cases he
  replace hF : (Below w0.heap.size w0 w2 ∧ HeapOk (scL D) w2) := ⟨hF.1.trans ((below_tp hb htp).mono hF.1.size), hw2⟩
  clear hb htp hw2
  rcases hv : vecB xs with _ | _
  · have hno' := hno (by rw [hv]; rfl)
    clear hno
    have fm : ∀ {w w₁ : World}, (Below w0.heap.size w0 w ∧ HeapOk (scL D) w) → ROf 71 st w w₁ → (Below w0.heap.size w0 w₁ ∧ HeapOk (scL D) w₁) := fun hh rr => at_rely (F := fun w => (Below w0.heap.size w0 w ∧ HeapOk (scL D) w)) (fun w d h => ⟨below_at h.1, heapOk_at h.2⟩) hP.tag hh rr
    refine done_dm (n := 5 + (1 + (1 + 20))) hP.tag hP.d ?_
    refine goes_join (n := 5) (m := 22) dm_nil (ROf.refl _ _) ?_
    walk_nrm
    u_op fm hF
    u_op fm hF
    u_op fm hF
    refine Goes.stop (fun w₁ h₁ => ?_)
    replace hF := fm hF h₁
    clear h₁
    refine Goes.step rfl (fun w₁ h₁ => ?_)
    replace hF := fm hF h₁
    clear h₁
    rw [stepG_alloc rfl rfl (by k_ne) rfl Tryz.zeroValue36]
    simp only [goes_go]
    refine ⟨dm_law hP.tag _, ?_⟩
    walk_nrm
    have hP1 := hP.more hF.1.size
    have hF1 : Below w0.heap.size w0 (w₁.alloc (.cells (VL z24) 36)) ∧ HeapOk (scL D) (w₁.alloc (.cells (VL z24) 36)) := ⟨hF.1.alloc hF.1.size _, heapOk_alloc hF.2 (VL_ok _)⟩
    have hn1 : (w₁.alloc (.cells (VL z24) 36)).heap[w₁.heap.size]? = some (.cells (VL z24) 36) := heap_alloc_new _ _
    have hsz := hF.1.size
    have hm1 := hP1.fr w₁.heap.size (Nat.le_refl _)
    have hg1 := (hP1.mz _ hm1).2
    show Goes _ _ _ _ _ _ _ (w₁.alloc (.cells (VL z24) 36))
    revert hF1 hn1 hsz hm1 hg1
    generalize w₁.alloc (.cells (VL z24) 36) = w₂
    generalize w₁.heap.size = B6
    intro hF1 hn1 hsz hm1 hg1
    replace hF := hF1
    clear hF1 fm hP1
    replace hF := And.intro hF.1 (And.intro hF.2 hn1)
    clear hn1
    have fm : ∀ {w w₁ : World}, (Below w0.heap.size w0 w ∧ HeapOk (scL D) w ∧ w.heap[B6]? = some (.cells (VL z24) 36)) → ROf 71 st w w₁ → (Below w0.heap.size w0 w₁ ∧ HeapOk (scL D) w₁ ∧ w₁.heap[B6]? = some (.cells (VL z24) 36)) := fun hh rr => at_rely (F := fun w => (Below w0.heap.size w0 w ∧ HeapOk (scL D) w ∧ w.heap[B6]? = some (.cells (VL z24) 36))) (fun w d h => ⟨below_at h.1, heapOk_at h.2.1, h.2.2⟩) hP.tag hh rr
    refine Goes.step rfl (fun w₁ h₁ => ?_)
    replace hF := fm hF h₁
    clear h₁
    clear fm
    refine goes_ex (stepG_storeR (vs := VL (vcL xs)) rfl rfl (by k_ne) rfl rfl rfl hF.2.2 (vInfoL _ (vcL_len xs)) (by rw [VL_size, VL_size, vcL_len]; rfl) (VL_all _) (fun w => by rw [VL_size, vcL_len]; exact szV w)) fun es hes => ⟨dm_setRow hes hm1 hg1 (lt_of_some' hF.2.2), ?_⟩
    clear es hes
    have ht := turn_row (vs := VL (vcL xs)) hF.2.2
    replace hF : (Below w0.heap.size w0 (w₁.setRow B6 (VL (vcL xs))) ∧ HeapOk (scL D) (w₁.setRow B6 (VL (vcL xs))) ∧ (w₁.setRow B6 (VL (vcL xs))).heap[B6]? = some (.cells (VL (vcL xs)) 36) ∧ w0.heap.size ≤ B6) := ⟨below_setRow hF.1 hsz, heapOk_setRow hF.2.1 hF.2.2 (VL_ok _), ht.2.2, hsz⟩
    clear ht hm1 hg1 hsz
    generalize w₁.setRow _ _ = w₂ at hF ⊢
    have fm : ∀ {w w₁ : World}, (Below w0.heap.size w0 w ∧ HeapOk (scL D) w ∧ w.heap[B6]? = some (.cells (VL (vcL xs)) 36) ∧ w0.heap.size ≤ B6) → ROf 71 st w w₁ → (Below w0.heap.size w0 w₁ ∧ HeapOk (scL D) w₁ ∧ w₁.heap[B6]? = some (.cells (VL (vcL xs)) 36) ∧ w0.heap.size ≤ B6) := fun hh rr => at_rely (F := fun w => (Below w0.heap.size w0 w ∧ HeapOk (scL D) w ∧ w.heap[B6]? = some (.cells (VL (vcL xs)) 36) ∧ w0.heap.size ≤ B6)) (fun w d h => ⟨below_at h.1, heapOk_at h.2.1, h.2.2.1, h.2.2.2⟩) hP.tag hh rr
    refine goes_join (n := 20) (m := 0) dm_nil (ROf.refl _ _) ?_
    walk_nrm
    u_op fm hF
    u_c stepG_region_end fm hF
    u_c stepG_seq fm hF
    u_c stepG_seq fm hF
    u_reg fm hF
    u_op fm hF
    u_op fm hF
    u_c stepG_region_end fm hF
    u_cond true fm hF
    u_c stepG_seq fm hF
    u_reg fm hF
    u_op fm hF
    u_op fm hF
    u_c stepG_region_end fm hF
    u_c stepG_ret' fm hF
    refine Goes.step rfl (fun w₁ h₁ => ?_)
    replace hF := fm hF h₁
    clear h₁
    rw [stepG_leave2 rfl rfl Tryz.func5 rfl]
    simp only [goes_go]
    refine ⟨by u_nil, ?_⟩
    refine Goes.stop (fun w₁ h₁ => Goes.stop fun w₂ h₂ => ?_)
    replace hF := fm (fm hF h₁) h₂
    exact ⟨rfl, hno' _ hF.1 hF.2.1⟩
  rw [vcL_yes (vecB_len hv)]
  have hl := vecB_len hv
  have ok1' : Ok (scL D) (.slice A 24 c1) := by rw [← hl]; exact ok1
  have okT : Ok (scL D) (.tuple #[.agg (VL xs), .bool true]) := .tuple _ (by intro v h; simp only [List.mem_toArray, List.mem_cons, List.not_mem_nil, or_false] at h; rcases h with rfl | rfl; exact .agg _ (VL_ok _); exact .bool _)
  have okV : Ok (scL D) (.agg (VL xs)) := .agg _ (VL_ok _)
  have fm : ∀ {w w₁ : World}, (Below w0.heap.size w0 w ∧ HeapOk (scL D) w) → ROf 71 st w w₁ → (Below w0.heap.size w0 w₁ ∧ HeapOk (scL D) w₁) := fun hh rr => at_rely (F := fun w => (Below w0.heap.size w0 w ∧ HeapOk (scL D) w)) (fun w d h => ⟨below_at h.1, heapOk_at h.2⟩) hP.tag hh rr
  refine done_dm (n := 5 + (1 + (1 + 20))) hP.tag hP.d ?_
  refine goes_join (n := 5) (m := 22) dm_nil (ROf.refl _ _) ?_
  walk_nrm
  u_op fm hF
  u_op fm hF
  u_op fm hF
  refine Goes.stop (fun w₁ h₁ => ?_)
  replace hF := fm hF h₁
  clear h₁
  refine Goes.step rfl (fun w₁ h₁ => ?_)
  replace hF := fm hF h₁
  clear h₁
  rw [stepG_alloc rfl rfl (by k_ne) rfl Tryz.zeroValue36]
  simp only [goes_go]
  refine ⟨dm_law hP.tag _, ?_⟩
  walk_nrm
  have hP1 := hP.more hF.1.size
  have hF1 : Below w0.heap.size w0 (w₁.alloc (.cells (VL z24) 36)) ∧ HeapOk (scL D) (w₁.alloc (.cells (VL z24) 36)) := ⟨hF.1.alloc hF.1.size _, heapOk_alloc hF.2 (VL_ok _)⟩
  have hn1 : (w₁.alloc (.cells (VL z24) 36)).heap[w₁.heap.size]? = some (.cells (VL z24) 36) := heap_alloc_new _ _
  have hsz := hF.1.size
  have hm1 := hP1.fr w₁.heap.size (Nat.le_refl _)
  have hg1 := (hP1.mz _ hm1).2
  show Goes _ _ _ _ _ _ _ (w₁.alloc (.cells (VL z24) 36))
  revert hF1 hn1 hsz hm1 hg1
  generalize w₁.alloc (.cells (VL z24) 36) = w₂
  generalize w₁.heap.size = B6
  intro hF1 hn1 hsz hm1 hg1
  replace hF := hF1
  clear hF1 fm hP1
  replace hF := And.intro hF.1 (And.intro hF.2 hn1)
  clear hn1
  have fm : ∀ {w w₁ : World}, (Below w0.heap.size w0 w ∧ HeapOk (scL D) w ∧ w.heap[B6]? = some (.cells (VL z24) 36)) → ROf 71 st w w₁ → (Below w0.heap.size w0 w₁ ∧ HeapOk (scL D) w₁ ∧ w₁.heap[B6]? = some (.cells (VL z24) 36)) := fun hh rr => at_rely (F := fun w => (Below w0.heap.size w0 w ∧ HeapOk (scL D) w ∧ w.heap[B6]? = some (.cells (VL z24) 36))) (fun w d h => ⟨below_at h.1, heapOk_at h.2.1, h.2.2⟩) hP.tag hh rr
  refine Goes.step rfl (fun w₁ h₁ => ?_)
  replace hF := fm hF h₁
  clear h₁
  clear fm
  refine goes_ex (stepG_storeR (vs := VL (xs)) rfl rfl (by k_ne) rfl rfl rfl hF.2.2 (vInfoL _ hl) (by rw [VL_size, VL_size, hl]; rfl) (VL_all _) (fun w => by rw [VL_size, hl]; exact szV w)) fun es hes => ⟨dm_setRow hes hm1 hg1 (lt_of_some' hF.2.2), ?_⟩
  clear es hes
  have ht := turn_row (vs := VL (xs)) hF.2.2
  replace hF : (Below w0.heap.size w0 (w₁.setRow B6 (VL (xs))) ∧ HeapOk (scL D) (w₁.setRow B6 (VL (xs))) ∧ (w₁.setRow B6 (VL (xs))).heap[B6]? = some (.cells (VL (xs)) 36) ∧ w0.heap.size ≤ B6) := ⟨below_setRow hF.1 hsz, heapOk_setRow hF.2.1 hF.2.2 (VL_ok _), ht.2.2, hsz⟩
  clear ht hm1 hg1 hsz
  generalize w₁.setRow _ _ = w₂ at hF ⊢
  have fm : ∀ {w w₁ : World}, (Below w0.heap.size w0 w ∧ HeapOk (scL D) w ∧ w.heap[B6]? = some (.cells (VL (xs)) 36) ∧ w0.heap.size ≤ B6) → ROf 71 st w w₁ → (Below w0.heap.size w0 w₁ ∧ HeapOk (scL D) w₁ ∧ w₁.heap[B6]? = some (.cells (VL (xs)) 36) ∧ w0.heap.size ≤ B6) := fun hh rr => at_rely (F := fun w => (Below w0.heap.size w0 w ∧ HeapOk (scL D) w ∧ w.heap[B6]? = some (.cells (VL (xs)) 36) ∧ w0.heap.size ≤ B6)) (fun w d h => ⟨below_at h.1, heapOk_at h.2.1, h.2.2.1, h.2.2.2⟩) hP.tag hh rr
  refine goes_join (n := 20) (m := 0) dm_nil (ROf.refl _ _) ?_
  walk_nrm
  u_op fm hF
  u_c stepG_region_end fm hF
  u_c stepG_seq fm hF
  u_c stepG_seq fm hF
  u_reg fm hF
  u_op fm hF
  u_op fm hF
  u_c stepG_region_end fm hF
  u_cond false fm hF
  u_c stepG_skip fm hF
  u_c stepG_seq fm hF
  u_reg fm hF
  u_op fm hF
  refine Goes.stop (fun w₁ h₁ => ?_)
  replace hF := fm hF h₁
  clear h₁
  refine Goes.stop (fun w₁ h₁ => ?_)
  replace hF := fm hF h₁
  clear h₁
  have okB6 : Ok (scL D) (.pointer (some ⟨B6, 0, none⟩)) := ok_pointer.2 fun h => by have := hw.low _ h; have := hF.2.2.2; simp only at *; omega
  clear fm
  rcases hp : permB ys with _ | _
  · have hno' := hno (by rw [hv, hp]; rfl)
    clear hno
    refine ⟨rfl, done_callC (S := scL D) (vs := #[.slice A2 ys.length c2]) (R := fun T d e w' => e = .returned (.tuple #[.agg (VL z24), .bool false]) ∧ Below (tp w₁ T d).heap.size (tp w₁ T d) w') (scopeL hP.gb) hP.tag hP.may rfl rfl (by k_ne) rfl Tryz.func16 nmPF rfl (show fL 16 = true by kernel_rfl) (by simp [Act.eval]) (one_ok ok2) hF.2.1 (fun T d => permFrom_no A2 c2 ys (tp w₁ T d) ((ha2.below hF.1).more hF.1.size) hy hp) (fun T d e w' h => ⟨_, h.1⟩) fun v w2 T d T' d' hr hw2 htp => ?_⟩
    obtain ⟨he, hb⟩ := hr
    cases he
    have hb' := below_tp hb htp
    replace hF : (Below w0.heap.size w0 w2 ∧ HeapOk (scL D) w2 ∧ w2.heap[B6]? = some (.cells (VL xs) 36) ∧ w0.heap.size ≤ B6) := ⟨hF.1.trans (hb'.mono hF.1.size), hw2, (hb'.block _ (lt_of_some' hF.2.2.1)).trans hF.2.2.1, hF.2.2.2⟩
    clear hb hb' htp hw2
    have fm : ∀ {w w₁ : World}, (Below w0.heap.size w0 w ∧ HeapOk (scL D) w ∧ w.heap[B6]? = some (.cells (VL xs) 36) ∧ w0.heap.size ≤ B6) → ROf 71 st w w₁ → (Below w0.heap.size w0 w₁ ∧ HeapOk (scL D) w₁ ∧ w₁.heap[B6]? = some (.cells (VL xs) 36) ∧ w0.heap.size ≤ B6) := fun hh rr => at_rely (F := fun w => (Below w0.heap.size w0 w ∧ HeapOk (scL D) w ∧ w.heap[B6]? = some (.cells (VL xs) 36) ∧ w0.heap.size ≤ B6)) (fun w d h => ⟨below_at h.1, heapOk_at h.2.1, h.2.2.1, h.2.2.2⟩) hP.tag hh rr
    refine done_dm (n := 5 + (1 + (1 + 40))) hP.tag hP.d ?_
    refine goes_join (n := 5) (m := 42) dm_nil (ROf.refl _ _) ?_
    walk_nrm
    u_op fm hF
    u_op fm hF
    u_op fm hF
    refine Goes.stop (fun w₁ h₁ => ?_)
    replace hF := fm hF h₁
    clear h₁
    refine Goes.step rfl (fun w₁ h₁ => ?_)
    replace hF := fm hF h₁
    clear h₁
    rw [stepG_alloc rfl rfl (by k_ne) rfl Tryz.zeroValue39]
    simp only [goes_go]
    refine ⟨dm_law hP.tag _, ?_⟩
    walk_nrm
    have hP1 := hP.more hF.1.size
    have hsz := hF.1.size
    have hm1 := hP1.fr w₁.heap.size (Nat.le_refl _)
    have hg1 := (hP1.mz _ hm1).2
    have h6lt := lt_of_some' hF.2.2.1
    replace hF : (Below w0.heap.size w0 (w₁.alloc (.cells (VL z24) 39)) ∧ HeapOk (scL D) (w₁.alloc (.cells (VL z24) 39)) ∧ (w₁.alloc (.cells (VL z24) 39)).heap[B6]? = some (.cells (VL xs) 36) ∧ w0.heap.size ≤ B6) ∧ (w₁.alloc (.cells (VL z24) 39)).heap[w₁.heap.size]? = some (.cells (VL z24) 39) := ⟨⟨hF.1.alloc hF.1.size _, heapOk_alloc hF.2.1 (VL_ok _), (heap_alloc_ne _ _ h6lt).trans hF.2.2.1, hF.2.2.2⟩, heap_alloc_new _ _⟩
    show Goes _ _ _ _ _ _ _ (w₁.alloc (.cells (VL z24) 39))
    clear fm hP1
    revert hF hsz hm1 hg1 h6lt
    generalize w₁.alloc (.cells (VL z24) 39) = w₂
    generalize w₁.heap.size = B8
    intro hsz hm1 hg1 h6lt hF
    have fm : ∀ {w w₁ : World}, ((Below w0.heap.size w0 w ∧ HeapOk (scL D) w ∧ w.heap[B6]? = some (.cells (VL xs) 36) ∧ w0.heap.size ≤ B6) ∧ w.heap[B8]? = some (.cells (VL (z24)) 39)) → ROf 71 st w w₁ → ((Below w0.heap.size w0 w₁ ∧ HeapOk (scL D) w₁ ∧ w₁.heap[B6]? = some (.cells (VL xs) 36) ∧ w0.heap.size ≤ B6) ∧ w₁.heap[B8]? = some (.cells (VL (z24)) 39)) := fun hh rr => at_rely (F := fun w => ((Below w0.heap.size w0 w ∧ HeapOk (scL D) w ∧ w.heap[B6]? = some (.cells (VL xs) 36) ∧ w0.heap.size ≤ B6) ∧ w.heap[B8]? = some (.cells (VL (z24)) 39))) (fun w d h => ⟨⟨below_at h.1.1, heapOk_at h.1.2.1, h.1.2.2.1, h.1.2.2.2⟩, h.2⟩) hP.tag hh rr
    refine Goes.step rfl (fun w₁ h₁ => ?_)
    replace hF := fm hF h₁
    clear h₁
    clear fm
    refine goes_ex (stepG_storeR (vs := VL (z24)) rfl rfl (by k_ne) rfl rfl rfl hF.2 (pInfoL _ z24_len) (by simp only [VL_size, z24_len, z24_len]) (VL_all _) (fun w => by rw [VL_size, z24_len]; exact szP w)) fun es hes => ⟨dm_setRow hes hm1 hg1 (lt_of_some' hF.2), ?_⟩
    clear es hes
    have ht := turn_row (vs := VL (z24)) hF.2
    replace hF : ((Below w0.heap.size w0 (w₁.setRow B8 (VL (z24))) ∧ HeapOk (scL D) (w₁.setRow B8 (VL (z24))) ∧ (w₁.setRow B8 (VL (z24))).heap[B6]? = some (.cells (VL xs) 36) ∧ w0.heap.size ≤ B6) ∧ (w₁.setRow B8 (VL (z24))).heap[B8]? = some (.cells (VL (z24)) 39)) := ⟨⟨below_setRow hF.1.1 hsz, heapOk_setRow hF.1.2.1 hF.2 (VL_ok _), (ht.2.1 _ (by omega)).trans hF.1.2.2.1, hF.1.2.2.2⟩, ht.2.2⟩
    clear ht hm1 hg1
    generalize w₁.setRow _ _ = w₂ at hF ⊢
    have fm : ∀ {w w₁ : World}, ((Below w0.heap.size w0 w ∧ HeapOk (scL D) w ∧ w.heap[B6]? = some (.cells (VL xs) 36) ∧ w0.heap.size ≤ B6) ∧ w.heap[B8]? = some (.cells (VL (z24)) 39)) → ROf 71 st w w₁ → ((Below w0.heap.size w0 w₁ ∧ HeapOk (scL D) w₁ ∧ w₁.heap[B6]? = some (.cells (VL xs) 36) ∧ w0.heap.size ≤ B6) ∧ w₁.heap[B8]? = some (.cells (VL (z24)) 39)) := fun hh rr => at_rely (F := fun w => ((Below w0.heap.size w0 w ∧ HeapOk (scL D) w ∧ w.heap[B6]? = some (.cells (VL xs) 36) ∧ w0.heap.size ≤ B6) ∧ w.heap[B8]? = some (.cells (VL (z24)) 39))) (fun w d h => ⟨⟨below_at h.1.1, heapOk_at h.1.2.1, h.1.2.2.1, h.1.2.2.2⟩, h.2⟩) hP.tag hh rr
    refine goes_join (n := 20) (m := 20) dm_nil (ROf.refl _ _) ?_
    walk_nrm
    u_op fm hF
    u_c stepG_region_end fm hF
    u_c stepG_seq fm hF
    u_c stepG_seq fm hF
    u_reg fm hF
    u_op fm hF
    u_op fm hF
    u_c stepG_region_end fm hF
    u_cond true fm hF
    u_c stepG_seq fm hF
    u_reg fm hF
    u_op fm hF
    u_op fm hF
    u_c stepG_region_end fm hF
    u_c stepG_ret' fm hF
    refine Goes.step rfl (fun w₁ h₁ => ?_)
    replace hF := fm hF h₁
    clear h₁
    rw [stepG_leave2 rfl rfl Tryz.func5 rfl]
    simp only [goes_go]
    refine ⟨by u_nil, ?_⟩
    refine Goes.stop (fun w₁ h₁ => Goes.stop fun w₂ h₂ => ?_)
    replace hF := fm (fm hF h₁) h₂
    exact ⟨rfl, hno' _ hF.1.1 hF.1.2.1⟩
  have hl2 := permB_len hp
  have ok2' : Ok (scL D) (.slice A2 24 c2) := by rw [← hl2]; exact ok2
  refine ⟨rfl, done_callC (S := scL D) (vs := #[.slice A2 ys.length c2]) (R := fun T d e w' => e = .returned (.tuple #[.agg (VL ys), .bool true]) ∧ Below (tp w₁ T d).heap.size (tp w₁ T d) w') (scopeL hP.gb) hP.tag hP.may rfl rfl (by k_ne) rfl Tryz.func16 nmPF rfl (show fL 16 = true by kernel_rfl) (by simp [Act.eval]) (one_ok ok2) hF.2.1 (fun T d => permFrom_yes A2 c2 ys (tp w₁ T d) ((ha2.below hF.1).more hF.1.size) hy hp) (fun T d e w' h => ⟨_, h.1⟩) fun v w2 T d T' d' hr hw2 htp => ?_⟩
  obtain ⟨he, hb⟩ := hr
  cases he
  have hb' := below_tp hb htp
  replace hF : (Below w0.heap.size w0 w2 ∧ HeapOk (scL D) w2 ∧ w2.heap[B6]? = some (.cells (VL xs) 36) ∧ w0.heap.size ≤ B6) := ⟨hF.1.trans (hb'.mono hF.1.size), hw2, (hb'.block _ (lt_of_some' hF.2.2.1)).trans hF.2.2.1, hF.2.2.2⟩
  clear hb hb' htp hw2
  have fm : ∀ {w w₁ : World}, (Below w0.heap.size w0 w ∧ HeapOk (scL D) w ∧ w.heap[B6]? = some (.cells (VL xs) 36) ∧ w0.heap.size ≤ B6) → ROf 71 st w w₁ → (Below w0.heap.size w0 w₁ ∧ HeapOk (scL D) w₁ ∧ w₁.heap[B6]? = some (.cells (VL xs) 36) ∧ w0.heap.size ≤ B6) := fun hh rr => at_rely (F := fun w => (Below w0.heap.size w0 w ∧ HeapOk (scL D) w ∧ w.heap[B6]? = some (.cells (VL xs) 36) ∧ w0.heap.size ≤ B6)) (fun w d h => ⟨below_at h.1, heapOk_at h.2.1, h.2.2.1, h.2.2.2⟩) hP.tag hh rr
  refine done_dm (n := 5 + (1 + (1 + 40))) hP.tag hP.d ?_
  refine goes_join (n := 5) (m := 42) dm_nil (ROf.refl _ _) ?_
  walk_nrm
  u_op fm hF
  u_op fm hF
  u_op fm hF
  refine Goes.stop (fun w₁ h₁ => ?_)
  replace hF := fm hF h₁
  clear h₁
  refine Goes.step rfl (fun w₁ h₁ => ?_)
  replace hF := fm hF h₁
  clear h₁
  rw [stepG_alloc rfl rfl (by k_ne) rfl Tryz.zeroValue39]
  simp only [goes_go]
  refine ⟨dm_law hP.tag _, ?_⟩
  walk_nrm
  have hP1 := hP.more hF.1.size
  have hsz := hF.1.size
  have hm1 := hP1.fr w₁.heap.size (Nat.le_refl _)
  have hg1 := (hP1.mz _ hm1).2
  have h6lt := lt_of_some' hF.2.2.1
  replace hF : (Below w0.heap.size w0 (w₁.alloc (.cells (VL z24) 39)) ∧ HeapOk (scL D) (w₁.alloc (.cells (VL z24) 39)) ∧ (w₁.alloc (.cells (VL z24) 39)).heap[B6]? = some (.cells (VL xs) 36) ∧ w0.heap.size ≤ B6) ∧ (w₁.alloc (.cells (VL z24) 39)).heap[w₁.heap.size]? = some (.cells (VL z24) 39) := ⟨⟨hF.1.alloc hF.1.size _, heapOk_alloc hF.2.1 (VL_ok _), (heap_alloc_ne _ _ h6lt).trans hF.2.2.1, hF.2.2.2⟩, heap_alloc_new _ _⟩
  show Goes _ _ _ _ _ _ _ (w₁.alloc (.cells (VL z24) 39))
  clear fm hP1
  revert hF hsz hm1 hg1 h6lt
  generalize w₁.alloc (.cells (VL z24) 39) = w₂
  generalize w₁.heap.size = B8
  intro hsz hm1 hg1 h6lt hF
  have fm : ∀ {w w₁ : World}, ((Below w0.heap.size w0 w ∧ HeapOk (scL D) w ∧ w.heap[B6]? = some (.cells (VL xs) 36) ∧ w0.heap.size ≤ B6) ∧ w.heap[B8]? = some (.cells (VL (z24)) 39)) → ROf 71 st w w₁ → ((Below w0.heap.size w0 w₁ ∧ HeapOk (scL D) w₁ ∧ w₁.heap[B6]? = some (.cells (VL xs) 36) ∧ w0.heap.size ≤ B6) ∧ w₁.heap[B8]? = some (.cells (VL (z24)) 39)) := fun hh rr => at_rely (F := fun w => ((Below w0.heap.size w0 w ∧ HeapOk (scL D) w ∧ w.heap[B6]? = some (.cells (VL xs) 36) ∧ w0.heap.size ≤ B6) ∧ w.heap[B8]? = some (.cells (VL (z24)) 39))) (fun w d h => ⟨⟨below_at h.1.1, heapOk_at h.1.2.1, h.1.2.2.1, h.1.2.2.2⟩, h.2⟩) hP.tag hh rr
  refine Goes.step rfl (fun w₁ h₁ => ?_)
  replace hF := fm hF h₁
  clear h₁
  clear fm
  refine goes_ex (stepG_storeR (vs := VL (ys)) rfl rfl (by k_ne) rfl rfl rfl hF.2 (pInfoL _ hl2) (by simp only [VL_size, z24_len, hl2]) (VL_all _) (fun w => by rw [VL_size, hl2]; exact szP w)) fun es hes => ⟨dm_setRow hes hm1 hg1 (lt_of_some' hF.2), ?_⟩
  clear es hes
  have ht := turn_row (vs := VL (ys)) hF.2
  replace hF : ((Below w0.heap.size w0 (w₁.setRow B8 (VL (ys))) ∧ HeapOk (scL D) (w₁.setRow B8 (VL (ys))) ∧ (w₁.setRow B8 (VL (ys))).heap[B6]? = some (.cells (VL xs) 36) ∧ w0.heap.size ≤ B6) ∧ (w₁.setRow B8 (VL (ys))).heap[B8]? = some (.cells (VL (ys)) 39)) := ⟨⟨below_setRow hF.1.1 hsz, heapOk_setRow hF.1.2.1 hF.2 (VL_ok _), (ht.2.1 _ (by omega)).trans hF.1.2.2.1, hF.1.2.2.2⟩, ht.2.2⟩
  clear ht hm1 hg1
  generalize w₁.setRow _ _ = w₂ at hF ⊢
  have fm : ∀ {w w₁ : World}, ((Below w0.heap.size w0 w ∧ HeapOk (scL D) w ∧ w.heap[B6]? = some (.cells (VL xs) 36) ∧ w0.heap.size ≤ B6) ∧ w.heap[B8]? = some (.cells (VL (ys)) 39)) → ROf 71 st w w₁ → ((Below w0.heap.size w0 w₁ ∧ HeapOk (scL D) w₁ ∧ w₁.heap[B6]? = some (.cells (VL xs) 36) ∧ w0.heap.size ≤ B6) ∧ w₁.heap[B8]? = some (.cells (VL (ys)) 39)) := fun hh rr => at_rely (F := fun w => ((Below w0.heap.size w0 w ∧ HeapOk (scL D) w ∧ w.heap[B6]? = some (.cells (VL xs) 36) ∧ w0.heap.size ≤ B6) ∧ w.heap[B8]? = some (.cells (VL (ys)) 39))) (fun w d h => ⟨⟨below_at h.1.1, heapOk_at h.1.2.1, h.1.2.2.1, h.1.2.2.2⟩, h.2⟩) hP.tag hh rr
  refine goes_join (n := 12) (m := 28) dm_nil (ROf.refl _ _) ?_
  walk_nrm
  u_op fm hF
  u_c stepG_region_end fm hF
  u_c stepG_seq fm hF
  u_c stepG_seq fm hF
  u_reg fm hF
  u_op fm hF
  u_op fm hF
  u_c stepG_region_end fm hF
  u_cond false fm hF
  u_c stepG_skip fm hF
  u_c stepG_seq fm hF
  u_reg fm hF
  refine Goes.stop (fun w₁ h₁ => ?_)
  replace hF := fm hF h₁
  clear h₁
  refine Goes.step rfl (fun w₁ h₁ => ?_)
  replace hF := fm hF h₁
  clear h₁
  have hm6 := hP.fr B6 hF.1.2.2.2
  have hg6 := (hP.mz _ hm6).2
  have hg8 := (hP.mz _ (hP.fr B8 hsz)).2
  refine goes_ex (stepG_loadR (vs := VL xs) rfl rfl (by k_ne) rfl rfl hF.1.2.2.1 Tryz.underlying36 rfl (vInfoL _ hl) Tryz.isAgg36 (fun w => by rw [VL_size, hl]; exact szV w)) fun es hes => ⟨dm_read hes hg6 (lt_of_some' hF.1.2.2.1), ?_⟩
  clear es hes
  walk_nrm
  refine Goes.step rfl (fun w₁ h₁ => ?_)
  replace hF := fm hF h₁
  clear h₁
  refine goes_ex (stepG_loadR (vs := VL ys) rfl rfl (by k_ne) rfl rfl hF.2 Tryz.underlying39 rfl (pInfoL _ hl2) Tryz.isAgg39 (fun w => by rw [VL_size, hl2]; exact szP w)) fun es hes => ⟨dm_read hes hg8 (lt_of_some' hF.2), ?_⟩
  clear es hes
  walk_nrm
  have hM := fun (w1 : World) (hP1 : PH st D w1) (hK1 : ∀ b, (fun b => K b ∨ b = B6 ∨ b = B8) b → ¬ D b ∧ IntRow w1 b) (c : Frame) (cs : List Frame) hcont => movedDone (Fin := Fin) (K := (fun b => K b ∨ b = B6 ∨ b = B8)) (c := c) (cs := cs) hP1 hgs hl hl2 (permB_rng hp) hK1 (fun g hg => .inl (hKg g hg)) hcont
  simp only [bodyM, Tryz.f17, Option.getD_some] at hM
  refine Goes.step rfl (fun w₁ h₁ => ?_)
  replace hF := fm hF h₁
  clear h₁
  refine goes_call rfl rfl (by k_ne) rfl Tryz.func17 nmMV rfl ⟨dm_nil _, ?_⟩
  walk_nrmf Tryz.f17
  refine Goes.stop (fun w₁ h₁ => ?_)
  replace hF := fm hF h₁
  clear h₁
  refine ⟨rfl, hM w₁ (hP.more hF.1.1.size) (fun b hb => ?_) _ _ fun st1 w2 hP2 hH2 hgs2 hg2 hb2 => ?_⟩
  · rcases hb with hb | rfl | rfl
    · exact ⟨(hKn b hb).1, (hKn b hb).2.below hF.1.1 (hKn b hb).2.lt⟩
    · exact ⟨fun h => by have h1 : b < w0.heap.size := hw.low b h; have := hF.1.2.2.2; omega, .VL hF.1.2.2.1⟩
    · exact ⟨fun h => by have h1 : b < w0.heap.size := hw.low b h; omega, .VL hF.2⟩
  have hg3 : ∀ b, st1.grp b → b < w0.heap.size → st.grp b := fun b h1 h2 => hg2 b h1 (by have := hF.1.1.size; omega)
  clear hM hg2
  have hl3 : mvL xs ys = lmL xs ys 24 := mvL_eq hp
  have hl4 : (mvL xs ys).length = 24 := mvL_len xs ys
  revert hl3 hl4
  generalize mvL xs ys = L
  intro hl3 hl4
  rw [Frame.finish_at]
  walk_nrm
  have hB2 : Below w0.heap.size w0 w2 := hF.1.1.trans (hb2.mono hF.1.1.size)
  have hS0 : w0.heap.size ≤ w2.heap.size := Nat.le_trans hF.1.1.size hb2.size
  have hB0 : Below w0.heap.size w0 w2 := hB2
  clear hF fm hm6 hg6 hg8
  have hF : Below w0.heap.size w0 w2 ∧ HeapOk (scL (Dk (fun b => K b ∨ b = B6 ∨ b = B8) w2.heap.size)) w2 ∧ w2.heap.size ≤ w2.heap.size := ⟨hB2, hH2, Nat.le_refl _⟩
  have fm : ∀ {w w₁ : World}, (Below w0.heap.size w0 w ∧ HeapOk (scL (Dk (fun b => K b ∨ b = B6 ∨ b = B8) w2.heap.size)) w ∧ w2.heap.size ≤ w.heap.size) → ROf 71 st1 w w₁ → (Below w0.heap.size w0 w₁ ∧ HeapOk (scL (Dk (fun b => K b ∨ b = B6 ∨ b = B8) w2.heap.size)) w₁ ∧ w2.heap.size ≤ w₁.heap.size) := fun hh rr => at_rely (F := fun w => (Below w0.heap.size w0 w ∧ HeapOk (scL (Dk (fun b => K b ∨ b = B6 ∨ b = B8) w2.heap.size)) w ∧ w2.heap.size ≤ w.heap.size)) (fun w d h => ⟨below_at h.1, heapOk_at h.2.1, h.2.2⟩) hP2.tag hh rr
  refine done_dm (n := 4 + (1 + 30)) hP2.tag hP2.d ?_
  refine goes_join (n := 4) (m := 31) dm_nil (ROf.refl _ _) ?_
  u_call Tryz.func18 nmLI Tryz.f18 fm hF
  u_c stepG_seq fm hF
  u_reg fm hF
  refine Goes.stop (fun w₁ h₁ => ?_)
  replace hF := fm hF h₁
  clear h₁
  refine Goes.step rfl (fun w₁ h₁ => ?_)
  replace hF := fm hF h₁
  clear h₁
  rw [stepG_box (x := .tmp 0) rfl rfl (by k_ne) rfl]
  simp only [goes_go]
  refine ⟨dm_law hP2.tag _, ?_⟩
  walk_nrm
  show Goes _ _ _ _ _ _ _ (w₁.alloc (.cells (VL L) 36))
  have hsz := hF.2.2
  replace hF : Below w0.heap.size w0 (w₁.alloc (.cells (VL L) 36)) ∧ HeapOk (scL (Dk (fun b => K b ∨ b = B6 ∨ b = B8) w2.heap.size)) (w₁.alloc (.cells (VL L) 36)) ∧ w2.heap.size ≤ (w₁.alloc (.cells (VL L) 36)).heap.size ∧ (w₁.alloc (.cells (VL L) 36)).heap[w₁.heap.size]? = some (.cells (VL L) 36) := ⟨hF.1.alloc hF.1.size _, heapOk_alloc hF.2.1 (VL_ok _), by simp; omega, heap_alloc_new _ _⟩
  have okv : ¬ Dk (fun b => K b ∨ b = B6 ∨ b = B8) w2.heap.size w₁.heap.size := fun h => absurd h.1 (by omega)
  clear fm
  revert hF hsz okv
  generalize w₁.alloc (.cells (VL L) 36) = w₃
  generalize w₁.heap.size = B9
  intro hsz hF okv
  have hsv : ∀ (W : World) (es : Array Event), (Instr.sliceAt 36 (.pointer (some ⟨B9, 0, none⟩)) none (some (.int .i64 24)) (some (.int .i64 24))).events Tryz.prog W es = es := fun W es => by kernel_rfl
  have fm : ∀ {w w₁ : World}, (Below w0.heap.size w0 w ∧ HeapOk (scL (Dk (fun b => K b ∨ b = B6 ∨ b = B8) w2.heap.size)) w ∧ w2.heap.size ≤ w.heap.size ∧ w.heap[B9]? = some (.cells (VL L) 36)) → ROf 71 st1 w w₁ → (Below w0.heap.size w0 w₁ ∧ HeapOk (scL (Dk (fun b => K b ∨ b = B6 ∨ b = B8) w2.heap.size)) w₁ ∧ w2.heap.size ≤ w₁.heap.size ∧ w₁.heap[B9]? = some (.cells (VL L) 36)) := fun hh rr => at_rely (F := fun w => (Below w0.heap.size w0 w ∧ HeapOk (scL (Dk (fun b => K b ∨ b = B6 ∨ b = B8) w2.heap.size)) w ∧ w2.heap.size ≤ w.heap.size ∧ w.heap[B9]? = some (.cells (VL L) 36))) (fun w d h => ⟨below_at h.1, heapOk_at h.2.1, h.2.2.1, h.2.2.2⟩) hP2.tag hh rr
  refine goes_join (n := 30) (m := 0) dm_nil (ROf.refl _ _) ?_
  u_op fm hF
  u_c stepG_region_end fm hF
  u_c stepG_seq fm hF
  u_reg fm hF
  u_op fm hF
  u_op fm hF
  u_c stepG_region_end fm hF
  u_c stepG_ret' fm hF
  u_leave1 Tryz.func18 fm hF
  u_op fm hF
  u_op fm hF
  u_c stepG_region_end fm hF
  u_c stepG_ret' fm hF
  refine Goes.step rfl (fun w₁ h₁ => ?_)
  replace hF := fm hF h₁
  clear h₁
  rw [stepG_leave2 rfl rfl Tryz.func5 rfl]
  simp only [goes_go]
  refine ⟨by u_nil, ?_⟩
  refine Goes.stop (fun w₁ h₁ => Goes.stop fun w₂ h₂ => ?_)
  replace hF := fm (fm hF h₁) h₂
  refine ⟨rfl, hyes (by rw [hv, hp]; rfl) st1 _ _ _ (hP2.more hF.2.2.1) hF.2.1 (fun b hb h => h.2 (.inl hb)) hgs2 hg3 hF.1 (Nat.le_trans hS0 hsz) ?_ okv⟩
  rw [← hl3]
  exact hF.2.2.2
end

end Go.Proofs.YtiodikflmijhkaaGreatDoor
end

section
set_option linter.unusedSectionVars false
set_option linter.unusedVariables false
namespace Go.Proofs.YtiodikflmijhkaaGreatDoor.Farm
open Go Go.Conc Go.ConcN
variable [Go.ConcR.Payload]
/-- The bottom frame leaves: the run ends. -/
theorem done_ret {P : Program} {ty : TypeId} {st : MSt} {Fin : Value → World → Prop} {fr : Frame} {fn : Func} {v : Value} {w : World} (htag : st.tag = .law) (hm : fr.mode = .returning) (hd : fr.defers = []) (hk : fr.kind = .normal) (hf : P.funcs[fr.fn]? = some fn) (hi : P.inits.idxOf? fr.fn = none) (hr : ResultsC P fn fr.tmps v) (hfin : ∀ d, Fin v (w.at d)) : Done P ty Fin st (G fr []) w := by
  refine done_of_fin htag ⟨rfl, fun d => ⟨v, #[], ?_, by simp, hfin d⟩⟩
  have h1 := hr (w.at d)
  simp [G, stepG, unwind, doReturn, hm, hd, hk, hf, hi, h1.1, h1.2, seen_none, GStep.after]
end Go.Proofs.YtiodikflmijhkaaGreatDoor.Farm
end
