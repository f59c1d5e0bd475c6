/- Joined texts: G17 M90 Q7 C12 C18 C29. -/
import Derived.Test.YtiodikflmijhkaaGreatDoorJ27
import Derived.Test.YtiodikflmijhkaaGreatDoorJ14
import Derived.Test.YtiodikflmijhkaaGreatDoorJ13
import Derived.ChangeBookTie2
import Derived.Test.YtiodikflmijhkaaGreatDoorJ06
import Derived.Test.YtiodikflmijhkaaGreatDoorJ10
import Derived.Test.YtiodikflmijhkaaGreatDoorJ12
import Derived.Test.YtiodikflmijhkaaGreatDoorJ08
import Derived.Test.YtiodikflmijhkaaGreatDoorJ11
import Derived.Test.YtiodikflmijhkaaGreatDoorJ05
import Derived.Test.YtiodikflmijhkaaGreatDoorJ07
import Derived.Maps.AppendAt
import Derived.Deep.QuietTactic
import Derived.BigQuiet
import Derived.Shelf.RegionOpen
import Derived.Test.YtiodikflmijhkaaGreatDoorJ09
section
namespace Go.Proofs.YtiodikflmijhkaaGreatDoor
open Go.RowKit
set_option linter.unusedVariables false
set_option linter.unusedSimpArgs false
attribute [local irreducible] cN syn

/-- The list once the first k numbers are laid. -/
def lmL (xs ys : List Int) (k : Nat) : List Int := (List.range k).foldl (putL xs ys) (List.replicate 24 0)
def lvMove (xs ys : List Int) : List Int × Bool := if vecB xs && permB ys then (lmL xs ys 24, true) else ([], false)
theorem lmL_succ (xs ys : List Int) (k : Nat) : lmL xs ys (k + 1) = putL xs ys (lmL xs ys k) k := by simp [lmL, List.range_succ, List.foldl_append]
theorem lmL_len (xs ys : List Int) (k : Nat) : (lmL xs ys k).length = 24 := by
  induction k with
  | zero => rfl
  | succ k ih => rw [lmL_succ, putL, List.length_set, ih]

/-- Where each number lies behind whatever order of laying. -/
theorem put_at (xs ys : List Int) (hinj : ∀ i j, i < 24 → j < 24 → (ys.getD i 0).toNat = (ys.getD j 0).toNat → i = j) (hr : ∀ i, i < 24 → (ys.getD i 0).toNat < 24) :
    ∀ (is L : List _), (∀ i ∈ is, i < 24) → L.length = 24 → ∀ i, i < 24 → (is.foldl (putL xs ys) L).getD (ys.getD i 0).toNat 0 = if i ∈ is then xs.getD i 0 else L.getD (ys.getD i 0).toNat 0
  | [], L, _, _, i, _ => by simp
  | j :: is, L, hi, hl, i, h => by
    rw [List.foldl_cons, put_at xs ys hinj hr is _ (fun x hx => hi x (List.mem_cons_of_mem _ hx)) (by rw [putL, List.length_set]; exact hl) i h]
    have hj := hi j List.mem_cons_self
    by_cases hm : i ∈ is
    · rw [if_pos hm, if_pos (List.mem_cons_of_mem _ hm)]
    · rw [if_neg hm]
      by_cases e : i = j
      · subst e
        rw [if_pos List.mem_cons_self, putL, List.getD_eq_getElem?_getD, List.getElem?_set_self (by rw [hl]; exact hr i h)]
        rfl
      · rw [if_neg (by simp [e, hm]), putL, List.getD_eq_getElem?_getD, List.getElem?_set_ne (fun x => e (hinj j i hj h x).symm), ← List.getD_eq_getElem?_getD]

set_option maxRecDepth 100000 in
theorem mvL_flat (xs ys : List Int) : mvL xs ys = [0, 4, 8, 12, 16, 20, 1, 5, 9, 13, 17, 21, 2, 6, 10, 14, 18, 22, 3, 7, 11, 15, 19, 23].foldl (putL xs ys) (List.replicate 24 0) := by
  simp only [mvL, accL, rowL, show List.range 4 = [0, 1, 2, 3] from rfl, show List.range 6 = [0, 1, 2, 3, 4, 5] from rfl, List.foldl_cons, List.foldl_nil]
theorem lmL_flat (xs ys : List Int) : lmL xs ys 24 = (List.range 24).foldl (putL xs ys) (List.replicate 24 0) := rfl

theorem permB_inj {ys : List Int} (h : permB ys = true) : (∀ i j, i < 24 → j < 24 → (ys.getD i 0).toNat = (ys.getD j 0).toNat → i = j) ∧ (∀ i, i < 24 → (ys.getD i 0).toNat < 24) ∧ ∀ p, p < 24 → ∃ i, i < 24 ∧ (ys.getD i 0).toNat = p := by
  obtain ⟨hP, _⟩ := permB_perm h
  obtain ⟨h1, h2, h3⟩ := hP
  have hq : ∀ i, i < 24 → (ys.getD i 0).toNat = (natP ys).getD i 0 := fun i hi => by rw [(permB_at h i hi).1]; simp
  refine ⟨fun i j hi hj e => ?_, fun i hi => by rw [hq i hi]; exact (permB_at h i hi).2, fun p hp => ?_⟩
  · rw [hq i hi, hq j hj, List.getD_eq_getElem?_getD, List.getD_eq_getElem?_getD, List.getElem?_eq_getElem (by omega), List.getElem?_eq_getElem (by omega)] at e
    rcases Nat.lt_trichotomy i j with hlt | hlt | hlt
    · exact absurd e ((List.pairwise_iff_getElem.1 h2) i j (by omega) (by omega) hlt)
    · exact hlt
    · exact absurd e.symm ((List.pairwise_iff_getElem.1 h2) j i (by omega) (by omega) hlt)
  · apply Classical.byContradiction
    intro hno
    have hnot : p ∉ natP ys := fun hm => by
      obtain ⟨i, hi, e⟩ := List.getElem_of_mem hm
      exact hno ⟨i, by omega, by rw [hq i (by omega), List.getD_eq_getElem?_getD, List.getElem?_eq_getElem hi, e]; rfl⟩
    have hsub := _root_.Go.nodup_lt_length 24 (p :: natP ys) (List.nodup_cons.2 ⟨hnot, h2⟩) fun x hx => (List.mem_cons.1 hx).elim (fun e => by omega) (h3 x)
    rw [List.length_cons, h1] at hsub
    omega

theorem mvL_eq {xs ys : List Int} (h : permB ys = true) : mvL xs ys = lmL xs ys 24 := by
  obtain ⟨h1, h2, h3⟩ := permB_inj h
  have l1 : (mvL xs ys).length = 24 := accL_len _ _ _
  have l2 := lmL_len xs ys 24
  refine List.ext_getElem (l1.trans l2.symm) fun p hp hp' => ?_
  obtain ⟨i, hi, e⟩ := h3 p (by omega)
  have a := put_at xs ys h1 h2 [0, 4, 8, 12, 16, 20, 1, 5, 9, 13, 17, 21, 2, 6, 10, 14, 18, 22, 3, 7, 11, 15, 19, 23] (List.replicate 24 0) (by decide) rfl i hi
  have b := put_at xs ys h1 h2 (List.range 24) (List.replicate 24 0) (by intro i hi; simpa using hi) rfl i hi
  have hm : ∀ i : Fin 24, i.val ∈ [0, 4, 8, 12, 16, 20, 1, 5, 9, 13, 17, 21, 2, 6, 10, 14, 18, 22, 3, 7, 11, 15, 19, 23] := by decide
  rw [← mvL_flat, if_pos (hm ⟨i, hi⟩), e] at a
  rw [← lmL_flat, if_pos (by simpa using hi), e] at b
  rw [List.getD_eq_getElem?_getD, List.getElem?_eq_getElem hp] at a
  rw [List.getD_eq_getElem?_getD, List.getElem?_eq_getElem hp'] at b
  simp only [Option.getD_some] at a b
  exact a.trans b.symm

theorem mk24m (W : World) : (Instr.makeSlice 23 (.int .i64 24) (.int .i64 24)).run Tryz.prog W = .ok (.slice (some ⟨W.heap.size, 0, none⟩) 24 24) (W.alloc (.cells (VL z24) 3)) := by kernel_rfl
/-- A list in a block of its own, and whether there is one. -/
def GotX (w : World) (L : List Int) (b : Bool) (e : Ending) (w' : World) : Prop := ∃ g, e = .returned (.tuple #[.slice (some ⟨g, 0, none⟩) L.length L.length, .bool b]) ∧ w.heap.size ≤ g ∧ w'.heap[g]? = some (.cells (VL L) 3) ∧ Below w.heap.size w w'
set_option maxRecDepth 100000 in
set_option maxHeartbeats 2000000 in
theorem sLatticeMove_calls (A A2 : Option Addr) (c c2 : Nat) (xs ys : List Int) (w : World) (ha : Rds w w.heap.size .i64 A xs) (hx : xs.length ≤ maxLen) (ha2 : Rds w w.heap.size .i64 A2 ys) (hy : ys.length ≤ maxLen) :
    Calls Tryz.prog 6 #[.slice A xs.length c, .slice A2 ys.length c2] w (GotX w (lvMove xs ys).1 (lvMove xs ys).2) := by
  have HM := mk24m
  have HE := Lib.hid (show (w.alloc (.cells #[] 3)).heap[w.heap.size]? = some (.cells (VL []) 3) from heap_alloc_new _ _)
  have HV := Lib.hid (sVectorValid_calls A c xs w ha hx)
  have HW := Lib.hid (sPermValid_calls A2 c2 ys w ha2 hy)
  rcases hb : vecB xs with _ | _
  · rw [show lvMove xs ys = ([], false) by simp [lvMove, hb]]
    rw [hb] at HV
    clear ha ha2 hx hy hb
    generalize xs.length = n at *
    generalize ys.length = m at *
    go_enter Tryz.func6, Tryz.ntmps6
    go_wp2_with fail
    refine HV.out.mono ?_
    rintro e w' ⟨rfl, rfl⟩
    go_wp2_with fail
    go_ret2
    exact ⟨_, rfl, Nat.le_refl _, HE.out, (Below.refl _ _).alloc (Nat.le_refl _) _⟩
  rcases hp : permB ys with _ | _
  · rw [show lvMove xs ys = ([], false) by simp [lvMove, hp]]
    rw [hb] at HV
    rw [hp] at HW
    clear ha ha2 hx hy hb hp
    generalize xs.length = n at *
    generalize ys.length = m at *
    go_enter Tryz.func6, Tryz.ntmps6
    go_wp2_with fail
    refine HV.out.mono ?_
    rintro e w' ⟨rfl, rfl⟩
    go_wp2_with fail
    refine HW.out.mono ?_
    rintro e w' ⟨rfl, rfl⟩
    go_wp2_with fail
    go_ret2
    exact ⟨_, rfl, Nat.le_refl _, HE.out, (Below.refl _ _).alloc (Nat.le_refl _) _⟩
  rw [show lvMove xs ys = (lmL xs ys 24, true) by simp [lvMove, hb, hp]]
  rw [hb] at HV
  rw [hp] at HW
  have HAT := Lib.hid (fun k hk => permB_at hp k hk)
  have HML := Lib.hid (lmL_len xs ys)
  have HMS := Lib.hid (fun k (hk : k < 24) => show (lmL xs ys k).set ((natP ys).getD k 0) (xs.getD k 0) = lmL xs ys (k + 1) by rw [lmL_succ, putL, (permB_at hp k hk).1]; simp)
  have HM0 := Lib.hid (show lmL xs ys 0 = z24 from rfl)
  generalize lmL xs ys = M at *
  have HL := Lib.hid (vecB_len hb)
  have HL2 := Lib.hid (permB_len hp)
  clear hb hp hx hy
  go_enter Tryz.func6, Tryz.ntmps6
  go_wp2_with fail
  refine HV.out.mono ?_
  rintro e w' ⟨rfl, rfl⟩
  go_wp2_with fail
  refine HW.out.mono ?_
  rintro e w' ⟨rfl, rfl⟩
  go_wp2_with fail
  go_loopw [7] (fun i wr => ∃ p : Nat, p ≤ 24 ∧ i = .int .i64 p ∧ Hid (wr.heap[w.heap.size]? = some (.cells (VL (M p)) 3 (0, 0))) ∧ Hid (Below w.heap.size w wr)) (fun i _ => 24 - (intOf i).toNat)
  case atStart => exact ⟨0, by omega, rfl, Lib.hid (by rw [HM0.out]; exact heap_alloc_new w _), Lib.hid ((Below.refl _ _).alloc (Nat.le_refl _) _)⟩
  case round =>
    obtain ⟨k, hk, rfl, h2, hbl⟩ := hrel
    clear HE
    by_cases hlt : k < 24
    · obtain ⟨e1, hq⟩ := HAT.out k hlt
      obtain ⟨B1, o1, rfl, hB1, c1⟩ := (ha.below hbl.out).at_ (j := k) (by have := HL.out; omega)
      obtain ⟨B2, o2, rfl, hB2, c2⟩ := (ha2.below hbl.out).at_ (j := k) (by have := HL2.out; omega)
      have k1 : (k : Int) < xs.length := by have := HL.out; omega
      have k2 : (k : Int) < ys.length := by have := HL2.out; omega
      rw [e1] at c2
      have HF := Lib.hid (fun X => row_set (X := X) h2.out (by omega) hbl.out (HMS.out k hlt))
      generalize (natP ys).getD k 0 = q at *
      have hq1 : (0 : Int) ≤ (q : Int) := by omega
      have hq2 : (q : Int) < 24 := by omega
      have hcx := VL_at (j := q) _ (by rw [HML.out k]; exact hq) h2.out
      have hfx : wr.frozen? ⟨w.heap.size, q, none⟩ = false := Lib.frozen_of_heap h2.out _
      clear e1
      generalize (M k).getD q 0 = z at *
      generalize xs.getD k 0 = x at *
      go_wp2_with fail
      go_region
      all_goals
       go_wp2_with fail
       go_roundw
       case rel =>
        refine ⟨k + 1, by omega, by go_num, Lib.hid ?_, Lib.hid ?_⟩
        · exact (HF.out _ rfl ⟨rfl, rfl, rfl⟩).1
        · exact (HF.out _ rfl ⟨rfl, rfl, rfl⟩).2.2.drew
       case measure => simp [intOf]; omega
    · obtain rfl : k = 24 := by omega
      have HO := Lib.hid (show ∃ g, Ending.returned (.tuple #[.slice (some ⟨w.heap.size, 0, none⟩) 24 24, .bool true]) = .returned (.tuple #[.slice (some ⟨g, 0, none⟩) (M 24).length (M 24).length, .bool true]) ∧ w.heap.size ≤ g ∧ wr.heap[g]? = some (.cells (VL (M 24)) 3) ∧ Below w.heap.size w wr from ⟨_, by rw [HML.out], Nat.le_refl _, h2.out, hbl.out⟩)
      clear h2
      go_wp2_with fail
      go_ret2
      exact HO.out

end Go.Proofs.YtiodikflmijhkaaGreatDoor
end

section
namespace Go.Proofs.YtiodikflmijhkaaGreatDoor
set_option linter.unusedVariables false
attribute [local irreducible] cN syn

theorem KeepsN.turn {P : List Nat} (hP : PermN P) (h : KeepsN P) : KeepsN (turnN P) := by
  refine keepsN_iff.2 fun v hv hs => ?_
  have hM := movN_lt (turnN_perm hP) v
  have hsplit := word_split (movN (turnN P) v) hM
  -- the moved words of the code are all words of the code: counted by what is moved back
  have hsurj : ∃ u, u < 16777216 ∧ syn u = 0 ∧ movN P u = v := by
    have hnd : ((List.range 4096).map fun m => movN P (cN m)).Nodup := by
      refine List.nodup_iff_pairwise_ne.2 (List.pairwise_iff_getElem.2 fun a b ha hb hab e => ?_)
      have ha' : a < 4096 := by simpa using ha
      have hb' : b < 4096 := by simpa using hb
      simp only [List.getElem_map, List.getElem_range] at e
      have e2 := congrArg (movN (turnN P)) e
      rw [mov_turn hP _ (cN_lt _), mov_turn hP _ (cN_lt _)] at e2
      have e3 := congrArg (lin gM) e2
      rw [msg_cN a ha', msg_cN b hb'] at e3
      omega
    apply Classical.byContradiction
    intro hno
    have hnd2 : (v :: (List.range 4096).map fun m => movN P (cN m)).Nodup := by
      refine List.nodup_cons.2 ⟨fun hm => ?_, hnd⟩
      obtain ⟨m, hm1, hm2⟩ := List.mem_map.1 hm
      exact hno ⟨cN m, cN_lt m, syn_cN m, hm2⟩
    have := List.Nodup.length_le_of_subset hnd2 (l₂ := (List.range 4096).map cN) (fun x hx => by
      rcases List.mem_cons.1 hx with rfl | hx
      · exact List.mem_map.2 ⟨lin gM x, List.mem_range.2 (msg_lt x), (in_code x hv hs).symm⟩
      · obtain ⟨m, hm1, rfl⟩ := List.mem_map.1 hx
        exact List.mem_map.2 ⟨lin gM (movN P (cN m)), List.mem_range.2 (msg_lt _), (in_code _ (movN_lt hP _) (h.all m)).symm⟩)
    simp at this
  obtain ⟨u, hu, hs0, e⟩ := hsurj
  rw [← e, mov_turn hP u hu]
  exact hs0

theorem foldl_perm {l1 l2 : List Int} (h : l1.Perm l2) : ∀ a, l1.foldl (· + ·) a = l2.foldl (· + ·) a := by
  induction h with
  | nil => intro a; rfl
  | cons x _ ih => intro a; simp only [List.foldl_cons]; exact ih _
  | swap x y l => intro a; simp only [List.foldl_cons]; rw [show a + y + x = a + x + y by omega]
  | trans _ _ h1 h2 => intro a; rw [h1, h2]
theorem sumZ_fold (f : Nat → Int) : ∀ n, sumZ n f = ((List.range n).map f).foldl (· + ·) 0
  | 0 => rfl
  | n + 1 => by rw [List.range_succ, List.map_append, List.foldl_append, ← sumZ_fold f n]; rfl
section
variable {P : List Nat} (hP : PermN P)
include hP
theorem vL_perm (x : Nat → Int) : (vL fun q => x (P.idxOf q)).Perm (vL x) := by
  have e : (vL fun q => x (P.idxOf q)) = (turnN P).map x := by simp [vL, turnN, idN, List.map_map, Function.comp_def]
  rw [e]
  exact (turnN_perm hP).perm.map x
theorem sumZ_perm (x : Nat → Int) : sumZ 24 (fun q => x (P.idxOf q)) = sumZ 24 x := by
  rw [sumZ_fold, sumZ_fold]
  exact foldl_perm (vL_perm hP x) 0
theorem lat_moved (hK : KeepsN P) {f v : Nat → Int} (e : ∀ q, q < 24 → v q = f (P.idxOf q)) (h : LatF f) : LatF v := by
  obtain ⟨m, c, x, h1, h2, h3, h4⟩ := h
  refine ⟨m, movN P c, fun q => x (P.idxOf q), h1, ⟨movN_lt hP c, ?_⟩, fun q hq => ?_, (by rw [sumZ_perm hP]; exact h4)⟩
  · have hs : syn c = 0 := by
      have := h2.2
      rw [codeInB_syn c h2.1] at this
      simpa using this
    rw [codeInB_syn _ (movN_lt hP c), hK.word c h2.1 hs]
    rfl
  · have hi := idx_lt hP q hq
    have hb : bZ (movN P c) q = bZ c (P.idxOf q) := by
      have := movN_bit hP c (P.idxOf q) hi
      rw [get_idx hP q hq] at this
      unfold bZ bN
      rw [this]
    rw [e q hq, h3 _ hi, hb]
end
theorem moved_facts {xs ys L : List Int} (hLM : lvMove xs ys = (L, true)) : ∃ T Z, plTurned ys = (T, true) ∧ T.length ≤ 24 ∧ lvMove L T = (xs, true) ∧ lvShape L = (Z, true) ∧ lvShape xs = (Z, true) ∧ Z.length ≤ 24 ∧ (keepsB ys = true → latB L = latB xs) := by
  have hvp : (vecB xs && permB ys) = true := by
    cases hh : (vecB xs && permB ys) with
    | true => rfl
    | false =>
      unfold lvMove at hLM
      rw [hh] at hLM
      simp at hLM
  have hL : L = lmL xs ys 24 := by
    unfold lvMove at hLM
    rw [hvp] at hLM
    simp only [if_true, Prod.mk.injEq, and_true] at hLM
    exact hLM.symm
  obtain ⟨hv, hp⟩ : vecB xs = true ∧ permB ys = true := by simpa using hvp
  have hx := vecB_len hv
  have hll : L.length = 24 := by rw [hL]; exact lmL_len xs ys 24
  obtain ⟨hP, e⟩ := permB_perm hp
  -- where each number lies
  have put : ∀ (us bs : List Int), permB bs = true → ∀ i, i < 24 → (lmL us bs 24).getD ((natP bs).getD i 0) 0 = us.getD i 0 := fun us bs hb i hi => by
    obtain ⟨h1, h2, _⟩ := permB_inj hb
    have b := put_at us bs h1 h2 (List.range 24) (List.replicate 24 0) (by intro i hi; simpa using hi) rfl i hi
    rw [← lmL_flat, if_pos (by simpa using hi), (permB_at hb i hi).1] at b
    simpa using b
  have at1 : ∀ q, q < 24 → atL L q = atL xs ((natP ys).idxOf q) := fun q hq => by
    have := put xs ys hp _ (idx_lt hP q hq)
    rw [get_idx hP q hq] at this
    unfold atL
    rw [hL]
    exact this
  have hvL : vecB L = true := vecB_of hll fun q hq => by rw [at1 q hq]; exact vecB_rng hv _
  have hb := permB_of (turnN_perm hP)
  have hsh : shapeL L = shapeL xs := by
    unfold shapeL
    have hpm : (vL fun p => max (atL L p) (-atL L p)).Perm (vL fun p => max (atL xs p) (-atL xs p)) := by
      rw [vL_ext _ (fun q => (fun i => max (atL xs i) (-atL xs i)) ((natP ys).idxOf q)) fun q hq => by rw [at1 q hq]]
      exact vL_perm hP fun i => max (atL xs i) (-atL xs i)
    exact ((List.mergeSort_perm _ _).trans (hpm.trans (List.mergeSort_perm _ _).symm)).eq_of_pairwise (fun a b _ _ h1 h2 => by omega) (ms_pair _) (ms_pair _)
  refine ⟨intP (turnN (natP ys)), shapeL xs, by simp [plTurned, hp], by rw [intP_len, turnN_len]; omega, ?_, by simp [lvShape, hvL, hsh], by simp [lvShape, hv], by unfold shapeL; rw [List.length_mergeSort, vL_len]; omega, fun hk => ?_⟩
  · unfold lvMove
    rw [hvL, hb]
    simp only [Bool.and_self, if_true, Prod.mk.injEq, and_true]
    refine listI_ext (lmL_len _ _ 24) hx fun j hj => ?_
    have h1 := put L (intP (turnN (natP ys))) hb ((natP ys).getD j 0) (hP.get j hj)
    rw [natP_intP, turnN_get _ (hP.get j hj), idx_get hP j hj] at h1
    rw [h1]
    have h2 := put xs ys hp j hj
    rw [hL]
    exact h2
  · have hK := (keepsB_iff hp).1 hk
    have hT := turnN_perm hP
    unfold latB
    rw [hvL, hv, Bool.true_and, Bool.true_and, Bool.eq_iff_iff, inF_iff, inF_iff]
    refine ⟨fun h => ?_, fun h => lat_moved hP hK at1 h⟩
    refine lat_moved hT (KeepsN.turn hP hK) (fun q hq => ?_) h
    have h3 : (turnN (natP ys)).idxOf q = (natP ys).getD q 0 := by
      have h4 := hP.get q hq
      have h5 : (turnN (natP ys)).getD ((natP ys).getD q 0) 0 = q := by rw [turnN_get _ h4, idx_get hP q hq]
      have h6 := idx_get hT _ h4
      rw [h5] at h6
      exact h6
    rw [h3, at1 _ (hP.get q hq), idx_get hP q hq]
end Go.Proofs.YtiodikflmijhkaaGreatDoor
end

section
namespace Go.Proofs.YtiodikflmijhkaaGreatDoor
open Go.RowKit
set_option linter.unusedVariables false

def oIn (n : Int) : Bool := cIn n && decide (wt n = 8)
theorem oIn_w {n : Int} (h : oIn n = true) : IsW n ∧ codeInB n = true ∧ wt n = 8 := by
  simp only [oIn, cIn, Bool.and_eq_true, decide_eq_true_eq] at h
  exact ⟨(wordB_iff n).1 h.1.1, h.1.2, h.2⟩
theorem sOctadIn_calls (n : Int) (w : World) :
    Calls Tryz.prog 55 #[.int .i64 n] w fun e w' => e = .returned (.bool (oIn n)) ∧ Below w.heap.size w w' := by
  rcases hc : cIn n with _ | _
  · rw [show oIn n = false by simp [oIn, hc]]
    have HC := Lib.hid hc
    clear hc
    go_enter Tryz.func55, Tryz.ntmps55
    go_wp2_with (go_at_call 60; refine (sCodeIn_calls _ _).mono ?_; rintro e w1 ⟨he, b1⟩; rw [HC.out] at he; subst he)
    go_ret
    exact ⟨rfl, b1⟩
  · have hx : oIn n = (wt n == 8) := by
      simp only [oIn, hc, Bool.true_and]
      by_cases h : wt n = 8 <;> simp [h]
    rw [hx]
    have HC := Lib.hid hc
    clear hc hx
    go_enter Tryz.func55, Tryz.ntmps55
    go_wp2_with (first
      | (go_at_call 60; refine (sCodeIn_calls _ _).mono ?_; rintro e w1 ⟨he, b1⟩; rw [HC.out] at he; subst he)
      | (go_at_call 57; refine (l1Weight_calls _ _).mono ?_; rintro e w' ⟨rfl, rfl⟩))
    go_ret
    exact ⟨rfl, b1⟩
end Go.Proofs.YtiodikflmijhkaaGreatDoor
/- All octads in a row, of the model: gathered, sorted by halves. -/
namespace Go.Proofs.YtiodikflmijhkaaGreatDoor
open Go.RowKit
attribute [local irreducible] octS
set_option linter.unusedVariables false

set_option maxRecDepth 100000 in
set_option maxHeartbeats 2000000 in
theorem l4All_calls (w : World) :
    Calls Tryz.prog 133 #[] w fun e w' => ∃ A c, e = .returned (.slice A 759 c) ∧ 759 ≤ c ∧ c ≤ maxLen ∧ Rds w' w'.heap.size .i64 A octS ∧ (∀ ad, A = some ad → w.heap.size ≤ ad.block) ∧ Below w.heap.size w w' := by
  have HO := Lib.hid (own_empty w w.heap.size (Nat.le_refl _))
  go_enter Tryz.func133, Tryz.ntmps133
  go_wp2
  go_loopw [1, 2] (fun v i wr => ∃ k : Nat, k ≤ 4096 ∧ i = .int .i64 k ∧ Hid (Own wr w.heap.size v (octF k)) ∧ Hid (Below w.heap.size w wr)) (fun _ i _ => 4096 - (intOf i).toNat)
  case atStart => exact ⟨0, by omega, rfl, HO, Lib.hid ((Below.refl _ _).alloc (Nat.le_refl _) _)⟩
  case round =>
    obtain ⟨k, hk, rfl, ho, hb⟩ := hrel
    clear HO
    by_cases hlt : k < 4096
    · have hl := octF_len k
      have HS := Lib.hid (show octF (k + 1) = if wt (codeOf k) = 8 then octF k ++ [codeOf k] else octF k from rfl)
      have hx := codeOf_range (k : Int)
      generalize octF k = L at *
      generalize hC : codeOf (k : Int) = x at *
      have HC := Lib.hid hC
      clear hC
      by_cases h8 : wt x = 8
      · have H8 := Lib.hid h8
        rw [if_pos h8] at HS
        clear h8
        go_wp2_with (first
          | (go_at_call 62; refine (l3Of_calls _ _ (by omega) (by omega)).mono ?_; rintro e w1 ⟨he, b1⟩; rw [HC.out] at he; subst he)
          | (go_at_call 57; refine (l1Weight_calls _ _).mono ?_; rintro e w' ⟨he, rfl⟩; rw [H8.out] at he; subst he)
          | (at_builtin; refine wpList_push rfl _ _ rfl w1 w.heap.size _ _ _ _ rfl rfl (by exact ho.out.below b1) (by omega) (Nat.le_trans hb.out.size b1.size) ?_; intro v2 w2 ho2 hb2 _))
        rw [← HS.out] at ho2
        go_roundw
        case rel => exact ⟨k + 1, by omega, by go_num, Lib.hid ho2, Lib.hid ((hb.out.trans (b1.mono hb.out.size)).trans hb2)⟩
        case measure => simp [intOf]; omega
      · rw [if_neg h8] at HS
        have h81 : (wt x == 8) = false := by simpa using h8
        clear h8
        generalize hq : wt x = q at *
        have HQ := Lib.hid hq
        clear hq
        go_wp2_with (first
          | (go_at_call 62; refine (l3Of_calls _ _ (by omega) (by omega)).mono ?_; rintro e w1 ⟨he, b1⟩; rw [HC.out] at he; subst he)
          | (go_at_call 57; refine (l1Weight_calls _ _).mono ?_; rintro e w' ⟨he, rfl⟩; rw [HQ.out] at he; subst he))
        go_roundw
        case rel => exact ⟨k + 1, by omega, by go_num, by rw [HS.out]; exact Lib.hid (ho.out.below b1), Lib.hid (hb.out.trans (b1.mono hb.out.size))⟩
        case measure => simp [intOf]; omega
    · obtain rfl : k = 4096 := by omega
      obtain ⟨k, hk⟩ : ∃ k, k = 4096 := ⟨_, rfl⟩
      rw [← hk] at ho
      have hl := octF_len k
      have HE := Lib.hid (octs_eq k hk)
      have HN := Lib.hid octS_759
      generalize octF k = L at *
      obtain ⟨A, c, rfl⟩ := ho.out.slice
      obtain ⟨q1, q2⟩ := own_caps ho.out
      go_wp2_with fail
      refine (l4Sort_calls L.length L A c wr rfl (by omega) q1 q2 ho.out.rds).mono ?_
      have HLO := Lib.hid (own_lo' ho.out)
      rintro e w1 ⟨A', c', ys, rfl, p1, s1, l1, m1, r1, a1, b1, _⟩
      have hys := HE.out ys p1 s1
      have hn : L.length = 759 := by rw [← p1.length_eq, hys]; exact HN.out
      rw [hys] at r1
      rw [hn] at l1
      go_wp2_with fail
      go_ret
      exact ⟨A', c', by first | rfl | rw [hn], l1, m1, r1, (fun ad h => by rcases a1 ad h with h | h; exact HLO.out ad h; exact Nat.le_trans hb.out.size h), hb.out.trans (b1.mono hb.out.size)⟩
end Go.Proofs.YtiodikflmijhkaaGreatDoor
/- Octads of the model: through places, counted, met, dodecads. -/
namespace Go.Proofs.YtiodikflmijhkaaGreatDoor
open Go.RowKit
set_option linter.unusedVariables false
attribute [local irreducible] octS cN octF

theorem wof_is {xs : List Int} {t : Int} (h : wof xs = some t) : IsW t ∧ wt t = xs.length := by
  have := wof_char _ xs t rfl h
  exact ⟨this.1, this.2.2.2.1⟩
def oThrough (xs : List Int) : Int × Bool := match wof xs with
  | some t => if xs.length = 5 then ((oWith t).getD 0 0, true) else (0, false)
  | none => (0, false)
theorem oWith_five {t : Int} (h : IsW t) (h5 : wt t = 5) : (oWith t).length = 1 := by
  obtain ⟨T, rfl⟩ := Int.eq_ofNat_of_zero_le h.1
  rw [oWith_thr]
  rw [wt_pop] at h5
  have := h.2
  exact thr5 T (by omega) (by omega)
theorem and_i64w (x W : Int) (hx : 0 ≤ x ∧ x ≤ 16777215) (hW : IsW W) : bits .and .i64 x W = andI x W := and_i64 x W hx.1 (by omega) hW.1 (by have := hW.2; omega)
/-- An append of one element, with where the new slice lies. -/
theorem wpList_pushAt {ops : Array Oper} {rest : List Oper} {o : Oper} {a : Act} {Q : Exit → Act → World → Prop} (hgd : o.guard = none) (s y : Operand)
    (ho : o.op = .call { callee := .builtin .append, args := #[s, y], argTypes := #[23, 23] })
    (w : World) (B : Nat) (v : Value) (xs : List Int) (x : Int) (c : Nat) (hs : a.eval s = v) (hy : a.eval y = .slice (some ⟨w.heap.size, 0, none⟩) 1 c)
    (hown : Own w B v xs) (hlen : xs.length ≤ 1048576) (hB : B ≤ w.heap.size)
    (h : ∀ v' w', Own w' B v' (xs ++ [x]) → Below B w w' → w.grownBy w' v.ownBlock → (∀ k, v'.ownBlock = some k → v.ownBlock = some k ∨ w.heap.size ≤ k) → wpList Tryz.prog ops Q rest (a.put o.dst v') w') :
    wpList Tryz.prog ops Q (o :: rest) a (w.alloc (.cells #[.int .i64 x] 3)) := by
  obtain ⟨i0, hi, hz0, hz1, hz2⟩ := info_parts intRow
  refine wpList_append_own_at _ hgd s y 23 ho B 3 i0 (.int .i64 0) 1 8 Tryz.underlying23 hi hz0 hz1 hz2 rfl (by decide) v xs.length (vals .i64 xs) hs
    (World.ownsRow.alloc hown _) ⟨w.heap.size, 0, none⟩ 1 c [.int .i64 x] hy rfl ?_ ?_ (by unfold maxLen; omega) (by omega) (by simp; omega) ?_
  · intro j u hj
    match j, hj with
    | 0, hj => simp at hj; subst hj; simp [Addr.add]
  · intro u hu; simp at hu; subst hu; rfl
  · intro v' w' h1 h2 _ h3
    have hg : w.grownBy w' v.ownBlock := grown_trans (World.grownBy_alloc w _ _) h2
    refine h v' w' ?_ ((Below.refl B w).grown hg hB (own_row_ge hown)) hg ?_
    · unfold Own
      rw [vals_append, show vals .i64 [x] = [Value.int .i64 x] from rfl]
      simpa using h1
    · intro k hk
      rcases h3 with h3 | h3
      · exact .inl (h3 ▸ hk)
      · rw [h3] at hk
        simp at hk
        exact .inr (by omega)
theorem Rds.apart {w w' : World} {B : Nat} {k : IntKind} {A : Option Addr} {xs : List Int} (h : Rds w B k A xs) {row : Option Nat} (hg : w.grownBy w' row) (hB : B ≤ w.heap.size) (hr : ∀ ad, A = some ad → row ≠ some ad.block) : Rds w' B k A xs := by
  rcases h with rfl | ⟨b, o, h1, h2, h3⟩
  · exact .inl rfl
  · exact .inr ⟨b, o, h1, h2, fun j hj => (World.cell?_of_block (hg.block b (by omega) (fun e => hr _ h1 e.symm))).trans (h3 j hj)⟩
set_option maxRecDepth 100000 in
set_option maxHeartbeats 2000000 in
theorem l4With_calls (W : Int) (w : World) (hW : IsW W) :
    Calls Tryz.prog 99 #[.int .i64 W] w fun e w' => ∃ v, e = .returned v ∧ Own w' w.heap.size v (oWith W) ∧ Below w.heap.size w w' := by
  have HO := Lib.hid (own_empty w w.heap.size (Nat.le_refl _))
  go_enter Tryz.func99, Tryz.ntmps99
  go_wp2_with fail
  refine (l4All_calls _).mono ?_
  rintro e w1 ⟨A, c, rfl, q1, q2, r1, a1, b1⟩
  have HB := Lib.hid (((Below.refl w.heap.size w).alloc (Nat.le_refl _) (.cells #[] 3)).trans (b1.mono (by simp)))
  have HO1 := Lib.hid (HO.out.below b1)
  have HR := Lib.hid r1
  have hs1 : w.heap.size < w1.heap.size := by have := b1.size; simp at this; omega
  have HA := Lib.hid (show ∀ ad, A = some ad → w.heap.size < ad.block from fun ad h => by have := a1 ad h; simp at this; omega)
  have HAU := Lib.hid (show ∀ ad, A = some ad → ad.block < w1.heap.size from fun ad h => by
    obtain ⟨b, o, e, hb, _⟩ := r1.at_ (j := 0) (by rw [octS_759]; decide)
    rw [e] at h; cases h; exact hb)
  clear b1 r1 HO a1
  go_wp2_with fail
  go_loopw [3, 5] (fun v i wr => ∃ k : Nat, k ≤ 759 ∧ i = .int .i64 k ∧ Hid (Own wr w.heap.size v ((octS.take k).filter fun x => andI x W == W)) ∧ Hid (Rds wr w1.heap.size .i64 A octS) ∧ Hid (∀ j, v.ownBlock = some j → j = w.heap.size ∨ w1.heap.size ≤ j) ∧ Hid (Below w.heap.size w wr) ∧ w1.heap.size ≤ wr.heap.size) (fun _ i _ => 759 - (intOf i).toNat)
  case atStart => exact ⟨0, by omega, rfl, HO1, HR, Lib.hid (fun j h => by simp [Value.ownBlock] at h; omega), HB, Nat.le_refl _⟩
  case round =>
    obtain ⟨k, hk, rfl, ho, hr, hj, hb, hz⟩ := hrel
    by_cases hlt : k < 759
    · have HS := Lib.hid (show (octS.take (k + 1)).filter (fun x => andI x W == W) = if andI (octS.getD k 0) W == W then (octS.take k).filter (fun x => andI x W == W) ++ [octS.getD k 0] else (octS.take k).filter (fun x => andI x W == W) by rw [oct_take k hlt, filter_snoc])
      obtain ⟨b, o, rfl, hb1, hc⟩ := hr.out.at_ (j := k) (by rw [octS_759]; exact hlt)
      have hx := (oct_at k hlt).rng
      have hl : ((octS.take k).filter fun x => andI x W == W).length ≤ 759 := by
        have h1 := List.length_filter_le (fun x => andI x W == W) (octS.take k)
        have h2 := List.length_take_le k octS
        omega
      have hq1 : (0 : Int) ≤ (k : Int) := by omega
      have hq2 : (k : Int) < 759 := by omega
      generalize octS.getD k 0 = x at *
      have hxw := and_i64w x W hx hW
      generalize (octS.take k).filter (fun x => andI x W == W) = L at *
      cases hP : andI x W == W
      · have HS2 := Lib.hid (show (octS.take (k + 1)).filter (fun x => andI x W == W) = L by rw [HS.out, hP]; rfl)
        go_wp2_with fail
        go_roundw
        case rel => exact ⟨k + 1, by omega, by go_num, by rw [HS2.out]; exact ho, hr, hj, hb, hz⟩
        case measure => simp [intOf]; omega
      · have HS2 := Lib.hid (show (octS.take (k + 1)).filter (fun x => andI x W == W) = L ++ [x] by rw [HS.out, hP]; rfl)
        go_wp2_with (at_builtin; refine wpList_pushAt rfl _ _ rfl _ w.heap.size _ _ _ _ rfl rfl (by exact ho.out) (by omega) (by omega) ?_; intro v2 w2 ho2 hb2 hg2 hat)
        go_roundw
        case rel =>
          refine ⟨k + 1, by omega, by go_num, by rw [HS2.out]; exact Lib.hid ho2, Lib.hid (hr.out.apart hg2 hz fun ad h e => ?_), Lib.hid (fun j h => ?_), Lib.hid (hb.out.trans hb2), Nat.le_trans hz hg2.size⟩
          · have h1 := HA.out ad h
            have h2 := HAU.out ad h
            rcases hj.out _ e with h3 | h3 <;> omega
          · rcases hat j h with h1 | h1
            · exact hj.out j h1
            · exact .inr (by omega)
        case measure => simp [intOf]; omega
    · obtain rfl : k = 759 := by omega
      have HE := Lib.hid (show (octS.take 759).filter (fun x => andI x W == W) = oWith W by rw [oct_take_all]; rfl)
      rw [HE.out] at ho
      go_wp2_with fail
      go_ret
      exact ⟨_, rfl, ho.out, hb.out⟩
set_option maxHeartbeats 2000000 in
theorem sOctadThrough_calls (A : Option Addr) (c : Nat) (xs : List Int) (w : World) (ha : Rds w w.heap.size .i64 A xs) (hx : xs.length ≤ maxLen) :
    Calls Tryz.prog 59 #[.slice A xs.length c] w fun e w' => e = .returned (.tuple #[.int .i64 (oThrough xs).1, .bool (oThrough xs).2]) ∧ Below w.heap.size w w' := by
  have hx' := hx
  unfold maxLen at hx'
  rcases hf : wof xs with _ | t
  · rw [show oThrough xs = (0, false) by simp [oThrough, hf]]
    have H := Lib.hid hf
    clear hf
    go_enter Tryz.func59, Tryz.ntmps59
    go_wp2_with (go_at_call 98; refine (sWordOf_calls A c xs _ ha hx).mono ?_; rintro e w' ⟨he, rfl⟩; rw [H.out] at he; simp only [resW] at he; subst he)
    go_ret2
    exact ⟨rfl, Below.refl _ _⟩
  obtain ⟨wt1, wt2⟩ := wof_is hf
  by_cases h5 : xs.length = 5
  · have hl := oWith_five wt1 (by omega)
    rw [show oThrough xs = ((oWith t).getD 0 0, true) by simp [oThrough, hf, h5]]
    have H := Lib.hid hf
    have HW := Lib.hid (l4With_calls t · wt1)
    have HS := Lib.hid (sWordOf_calls A c xs w ha hx)
    rw [h5] at HS ⊢
    clear hf wt2 h5 hx hx' ha
    generalize oWith t = L at *
    obtain ⟨y, hy⟩ : ∃ y, L.getD 0 0 = y := ⟨_, rfl⟩
    rw [hy]
    have HY := Lib.hid hy
    clear hy
    go_enter Tryz.func59, Tryz.ntmps59
    go_wp2_with fail
    refine HS.out.mono ?_
    rintro e w' ⟨he, rfl⟩
    rw [H.out] at he
    simp only [resW] at he
    subst he
    go_wp2_with fail
    refine (HW.out _).mono ?_
    rintro e w1 ⟨v, rfl, o1, b1⟩
    obtain ⟨g, cc, rfl⟩ : ∃ g cc, v = .slice (some ⟨g, 0, none⟩) 1 cc := by
      rcases o1.form with ⟨_, h0⟩ | ⟨g, cap, h0, _⟩
      · rw [h0] at hl; simp at hl
      · rw [hl] at h0; exact ⟨g, cap, h0⟩
    have hc0 := o1.cell (j := 0) (by omega)
    rw [HY.out] at hc0
    go_wp2_with fail
    go_ret2
    exact ⟨rfl, b1⟩
  · rw [show oThrough xs = (0, false) by simp [oThrough, hf, h5]]
    have h51 : ((xs.length : Int) != 5) = true := by simp; omega
    have H := Lib.hid hf
    clear hf h5
    go_enter Tryz.func59, Tryz.ntmps59
    go_wp2_with (go_at_call 98; refine (sWordOf_calls A c xs _ ha hx).mono ?_; rintro e w' ⟨he, rfl⟩; rw [H.out] at he; simp only [resW] at he; subst he)
    go_ret2
    exact ⟨rfl, Below.refl _ _⟩
end Go.Proofs.YtiodikflmijhkaaGreatDoor
end

section
namespace Go.Proofs.YtiodikflmijhkaaGreatDoor
open Go.RowKit Go.Shelf
attribute [local go_sem] Oper.semAt_some
set_option linter.unusedVariables false

end Go.Proofs.YtiodikflmijhkaaGreatDoor
end

section
namespace Go.Proofs.YtiodikflmijhkaaGreatDoor
open Go.RowKit
set_option linter.unusedVariables false

theorem Own.cut {w : World} {B g n c m : Nat} {xs : List Int} (h : Own w B (.slice (some ⟨g, 0, none⟩) n c) xs) (hm : m ≤ xs.length) : Own w B (.slice (some ⟨g, 0, none⟩) m c) (xs.take m) := by
  rcases h.2 with ⟨h1, _⟩ | ⟨b, cap, cur, h1, h2, h3, h4, h5, h6, h7⟩
  · cases h1
  · simp only [Value.slice.injEq, Option.some.injEq, Addr.mk.injEq, and_true] at h1
    obtain ⟨rfl, rfl, rfl⟩ := h1
    refine ⟨by simp [vals], .inr ⟨g, c, cur, by simp [Nat.min_eq_left hm], h2, h3, by simp; omega, h5, h6, ?_⟩⟩
    have e : vals .i64 (xs.take m) = (vals .i64 xs).take m := by simp [vals, List.map_take]
    rw [e, ← h7, List.length_take, Nat.min_eq_left hm, List.take_take, Nat.mul_one, Nat.mul_one, Nat.min_eq_left hm]
end Go.Proofs.YtiodikflmijhkaaGreatDoor
end

section
namespace Go.Proofs.YtiodikflmijhkaaGreatDoor
open Go.RowKit
set_option linter.unusedVariables false

end Go.Proofs.YtiodikflmijhkaaGreatDoor
end
