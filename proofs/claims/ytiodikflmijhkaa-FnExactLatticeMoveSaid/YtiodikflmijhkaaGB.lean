import Derived.Test.YtiodikflmijhkaaVA
import Derived.Conc.LoneCalls
import Derived.Test.YtiodikflmijhkaaGA
import Derived.Test.YtiodikflmijhkaaC164
import Derived.Test.YtiodikflmijhkaaC106
import Derived.ChangeBookTie2
import Derived.Test.YtiodikflmijhkaaC161
import Derived.Test.YtiodikflmijhkaaC101
import Derived.Test.YtiodikflmijhkaaC163
import Derived.Conc.CompanyCalls
import Derived.Conc.AppendWalk
import Derived.Deep.OwnRows
import Derived.Test.YtiodikflmijhkaaRows
import Derived.WalkKit
import Derived.ProofKit
import Derived.OpenShut
import Derived.ShutString
import Derived.ChangeOld
import Derived.Below
import Derived.Test.YtiodikflmijhkaaW8
import Derived.Conc.LeavingOf
import Derived.Conc.Holds
import Derived.Test.YtiodikflmijhkaaQ1
import Derived.Test.YtiodikflmijhkaaQ3
import Derived.Test.YtiodikflmijhkaaC160
/- A call whose contract holds of a run alone, made by a starter who is alone but for such as leave. No program is named here. -/
set_option linter.unusedSectionVars false
set_option linter.unusedVariables false
namespace Go.Proofs.Ytiodikflmijhkaa.Farm
open Go Go.Conc Go.ConcN
open Go.ConcR (KK wgBlock WgAt stA smA rd wr mk Payload Aside2 DC0 Bk g_of_ofEvents)
open Vow
variable [Payload]

section
variable {P : Program} {ty : TypeId} {st : MSt} {S : Scope} {b : Frame} {a : Act} {k : List Item} {cs : List Frame} {w : World} {ops : Array Oper} {i : Nat} {rest : List Nat} {o : Oper} {Fin : Value → World → Prop}

/-- ████ A CALL BY ITS CONTRACT. ████ -/
theorem done_call {f : FuncId} {fn : Func} {c : Code} {args : Array Operand} {ats : Array TypeId} {R : (Nat → Question → Nat) → Nat → Ending → World → Prop}
    (hS : ScopeOk S P) (htag : st.tag = .law) (hmay : ∀ b, ¬ S.D b → st.may b ∧ ¬ st.grp b)
    (ho : ops[i]? = some o) (hwt : Region.wanted o (yielded ops a.tmps) = true) (hk : b.kind ≠ .early) (hop : o.op = .call { callee := .value (.func f), args, argTypes := ats })
    (hf : P.funcs[f]? = some fn) (hname : (fn.name == "runtime.NumGoroutine") = false) (hb : fn.body = some c)
    (hfr : FrOk S P (b.at a [.inRegion ops (i :: rest)])) (hw : HeapOk S w)
    {vs : Array Value} (hargs : args.map a.eval = vs) (hC : ∀ T d, Calls P f vs (tp w T d) (R T d)) (hR : ∀ T d e w', R T d e w' → ∃ v, e = .returned v)
    (hK : ∀ v w1 T d T' d', R T d (.returned v) (tp w1 T' d') → HeapOk S w1 → FrOk S P (b.at (a.put o.dst v) [.inRegion ops rest]) → w1.tape = w.tape → Done P ty Fin st (G (b.at (a.put o.dst v) (.inRegion ops rest :: k)) cs) w1) :
    Done P ty Fin st (G (b.at a (.inRegion ops (i :: rest) :: k)) cs) w := by
  subst hargs
  have hL : Lone P (fun fr' w' => ∃ T d v, R T d (.returned v) w' ∧ fr' = b.at (a.put o.dst v) [.inRegion ops rest]) (b.at a [.inRegion ops (i :: rest)]) w := by
    intro T d
    obtain ⟨e, w', fr, hRe, hcome, _, hlv⟩ := hC T d (sx [pz] (b.at a [.inRegion ops (i :: rest)]) :: [pc])
    obtain ⟨v, rfl⟩ := hR T d e w' hRe
    refine ⟨b.at (a.put o.dst v) [.inRegion ops rest], w', ?_, T, d, v, hRe, rfl⟩
    have h1 : Steps P (solo (G (sx [pz] (b.at a [.inRegion ops (i :: rest)])) [pc]) (tp w T d)) (lone (Frame.enter P f (args.map a.eval) .normal) (sx [pz] (b.at a [.inRegion ops (i :: rest)]) :: [pc]) (tp w T d)) := by
      exact .one (step_solo_go (a := G (b.at a (.inRegion ops (i :: rest) :: [pz])) [pc]) rfl (stepG_enter ho hwt hk (run_call_body hop hf hname (by rw [hb]; rfl))))
    refine h1.trans (Steps.trans hcome (.one ?_))
    rw [step_leave_returned hlv]
    have hfin : (b.at a (.inRegion ops (i :: rest) :: [pz])).finish v = b.at (a.put o.dst v) (.inRegion ops rest :: [pz]) := by rw [Frame.finish_at, ho]; rfl
    show Stepped.next (lone ((b.at a (.inRegion ops (i :: rest) :: [pz])).finish v) [pc] w') = _
    rw [hfin]
    rfl
  exact done_of_tree (k := k) (cs := cs) htag hmay (tree_of_lone hS hfr hw hL) fun fr' w1 T' d' ⟨T, d, v, h1, h2⟩ h3 h4 h5 => by
    subst h2
    exact hK v w1 T d T' d' h1 h3 h4 h5
end
end Go.Proofs.Ytiodikflmijhkaa.Farm
/- LatticeMove of the model: its contract; what 'moved' returns is that. -/
namespace Go.Proofs.Ytiodikflmijhkaa
open Go.RowKit
set_option linter.unusedVariables false
set_option linter.unusedSimpArgs false
attribute [local irreducible] cN syn

/-- The list once the first k numbers are laid. -/
def lmL (xs ys : List Int) (k : Nat) : List Int := (List.range k).foldl (putL xs ys) (List.replicate 24 0)
def lvMove (xs ys : List Int) : List Int × Bool := if vecB xs && permB ys then (lmL xs ys 24, true) else ([], false)
theorem lmL_succ (xs ys : List Int) (k : Nat) : lmL xs ys (k + 1) = putL xs ys (lmL xs ys k) k := by simp [lmL, List.range_succ, List.foldl_append]
theorem lmL_len (xs ys : List Int) (k : Nat) : (lmL xs ys k).length = 24 := by
  induction k with
  | zero => rfl
  | succ k ih => rw [lmL_succ, putL, List.length_set, ih]

/-- Where each number lies behind whatever order of laying. -/
theorem put_at (xs ys : List Int) (hinj : ∀ i j, i < 24 → j < 24 → (ys.getD i 0).toNat = (ys.getD j 0).toNat → i = j) (hr : ∀ i, i < 24 → (ys.getD i 0).toNat < 24) :
    ∀ (is L : List _), (∀ i ∈ is, i < 24) → L.length = 24 → ∀ i, i < 24 → (is.foldl (putL xs ys) L).getD (ys.getD i 0).toNat 0 = if i ∈ is then xs.getD i 0 else L.getD (ys.getD i 0).toNat 0
  | [], L, _, _, i, _ => by simp
  | j :: is, L, hi, hl, i, h => by
    rw [List.foldl_cons, put_at xs ys hinj hr is _ (fun x hx => hi x (List.mem_cons_of_mem _ hx)) (by rw [putL, List.length_set]; exact hl) i h]
    have hj := hi j List.mem_cons_self
    by_cases hm : i ∈ is
    · rw [if_pos hm, if_pos (List.mem_cons_of_mem _ hm)]
    · rw [if_neg hm]
      by_cases e : i = j
      · subst e
        rw [if_pos List.mem_cons_self, putL, List.getD_eq_getElem?_getD, List.getElem?_set_self (by rw [hl]; exact hr i h)]
        rfl
      · rw [if_neg (by simp [e, hm]), putL, List.getD_eq_getElem?_getD, List.getElem?_set_ne (fun x => e (hinj j i hj h x).symm), ← List.getD_eq_getElem?_getD]

set_option maxRecDepth 100000 in
theorem mvL_flat (xs ys : List Int) : mvL xs ys = [0, 4, 8, 12, 16, 20, 1, 5, 9, 13, 17, 21, 2, 6, 10, 14, 18, 22, 3, 7, 11, 15, 19, 23].foldl (putL xs ys) (List.replicate 24 0) := by
  simp only [mvL, accL, rowL, show List.range 4 = [0, 1, 2, 3] from rfl, show List.range 6 = [0, 1, 2, 3, 4, 5] from rfl, List.foldl_cons, List.foldl_nil]
theorem lmL_flat (xs ys : List Int) : lmL xs ys 24 = (List.range 24).foldl (putL xs ys) (List.replicate 24 0) := rfl

theorem permB_inj {ys : List Int} (h : permB ys = true) : (∀ i j, i < 24 → j < 24 → (ys.getD i 0).toNat = (ys.getD j 0).toNat → i = j) ∧ (∀ i, i < 24 → (ys.getD i 0).toNat < 24) ∧ ∀ p, p < 24 → ∃ i, i < 24 ∧ (ys.getD i 0).toNat = p := by
  obtain ⟨hP, _⟩ := permB_perm h
  obtain ⟨h1, h2, h3⟩ := hP
  have hq : ∀ i, i < 24 → (ys.getD i 0).toNat = (natP ys).getD i 0 := fun i hi => by rw [(permB_at h i hi).1]; simp
  refine ⟨fun i j hi hj e => ?_, fun i hi => by rw [hq i hi]; exact (permB_at h i hi).2, fun p hp => ?_⟩
  · rw [hq i hi, hq j hj, List.getD_eq_getElem?_getD, List.getD_eq_getElem?_getD, List.getElem?_eq_getElem (by omega), List.getElem?_eq_getElem (by omega)] at e
    rcases Nat.lt_trichotomy i j with hlt | hlt | hlt
    · exact absurd e ((List.pairwise_iff_getElem.1 h2) i j (by omega) (by omega) hlt)
    · exact hlt
    · exact absurd e.symm ((List.pairwise_iff_getElem.1 h2) j i (by omega) (by omega) hlt)
  · apply Classical.byContradiction
    intro hno
    have hnot : p ∉ natP ys := fun hm => by
      obtain ⟨i, hi, e⟩ := List.getElem_of_mem hm
      exact hno ⟨i, by omega, by rw [hq i (by omega), List.getD_eq_getElem?_getD, List.getElem?_eq_getElem hi, e]; rfl⟩
    have hsub := _root_.Go.nodup_lt_length 24 (p :: natP ys) (List.nodup_cons.2 ⟨hnot, h2⟩) fun x hx => (List.mem_cons.1 hx).elim (fun e => by omega) (h3 x)
    rw [List.length_cons, h1] at hsub
    omega

theorem mvL_eq {xs ys : List Int} (h : permB ys = true) : mvL xs ys = lmL xs ys 24 := by
  obtain ⟨h1, h2, h3⟩ := permB_inj h
  have l1 : (mvL xs ys).length = 24 := accL_len _ _ _
  have l2 := lmL_len xs ys 24
  refine List.ext_getElem (l1.trans l2.symm) fun p hp hp' => ?_
  obtain ⟨i, hi, e⟩ := h3 p (by omega)
  have a := put_at xs ys h1 h2 [0, 4, 8, 12, 16, 20, 1, 5, 9, 13, 17, 21, 2, 6, 10, 14, 18, 22, 3, 7, 11, 15, 19, 23] (List.replicate 24 0) (by decide) rfl i hi
  have b := put_at xs ys h1 h2 (List.range 24) (List.replicate 24 0) (by intro i hi; simpa using hi) rfl i hi
  have hm : ∀ i : Fin 24, i.val ∈ [0, 4, 8, 12, 16, 20, 1, 5, 9, 13, 17, 21, 2, 6, 10, 14, 18, 22, 3, 7, 11, 15, 19, 23] := by decide
  rw [← mvL_flat, if_pos (hm ⟨i, hi⟩), e] at a
  rw [← lmL_flat, if_pos (by simpa using hi), e] at b
  rw [List.getD_eq_getElem?_getD, List.getElem?_eq_getElem hp] at a
  rw [List.getD_eq_getElem?_getD, List.getElem?_eq_getElem hp'] at b
  simp only [Option.getD_some] at a b
  exact a.trans b.symm

theorem mk24m (W : World) : (Instr.makeSlice 22 (.int .i64 24) (.int .i64 24)).run Try.prog W = .ok (.slice (some ⟨W.heap.size, 0, none⟩) 24 24) (W.alloc (.cells (VL z24) 3)) := by kernel_rfl
theorem own_24m {w : World} {B g : Nat} (xs : List Int) (hl : xs.length = 24) (hg : w.heap[g]? = some (.cells (VL xs) 3 (0, 0))) (hB : B ≤ g) : Own w B (.slice (some ⟨g, 0, none⟩) 24 24) xs :=
  ⟨by simp [vals_len, hl], .inr ⟨g, 24, _, by rw [hl], hB, hg, by simp [hl], by unfold maxLen; omega, by simp [VL, hl], by
    have : (vals .i64 xs).length ≤ xs.length * 1 := by rw [vals_len]; omega
    simp only [VL, vals, Nat.mul_one]
    rw [List.take_of_length_le (by simp)]⟩⟩

/-- A list in a block of its own, and whether there is one. -/
def GotX (w : World) (L : List Int) (b : Bool) (e : Ending) (w' : World) : Prop := ∃ g, e = .returned (.tuple #[.slice (some ⟨g, 0, none⟩) L.length L.length, .bool b]) ∧ w.heap.size ≤ g ∧ w'.heap[g]? = some (.cells (VL L) 3) ∧ Below w.heap.size w w'
set_option maxRecDepth 100000 in
set_option maxHeartbeats 2000000 in
theorem sLatticeMove_calls (A A2 : Option Addr) (c c2 : Nat) (xs ys : List Int) (w : World) (ha : Rds w w.heap.size .i64 A xs) (hx : xs.length ≤ maxLen) (ha2 : Rds w w.heap.size .i64 A2 ys) (hy : ys.length ≤ maxLen) :
    Calls Try.prog 4 #[.slice A xs.length c, .slice A2 ys.length c2] w (GotX w (lvMove xs ys).1 (lvMove xs ys).2) := by
  have HM := mk24m
  have HE := Lib.hid (show (w.alloc (.cells #[] 3)).heap[w.heap.size]? = some (.cells (VL []) 3) from heap_alloc_new _ _)
  have HV := Lib.hid (sVectorValid_calls A c xs w ha hx)
  have HW := Lib.hid (sPermValid_calls A2 c2 ys w ha2 hy)
  rcases hb : vecB xs with _ | _
  · rw [show lvMove xs ys = ([], false) by simp [lvMove, hb]]
    rw [hb] at HV
    clear ha ha2 hx hy hb
    generalize xs.length = n at *
    generalize ys.length = m at *
    go_enter Try.func4, Try.ntmps4
    go_wp2_with fail
    refine HV.out.mono ?_
    rintro e w' ⟨rfl, rfl⟩
    go_wp2_with fail
    go_ret2
    exact ⟨_, rfl, Nat.le_refl _, HE.out, (Below.refl _ _).alloc (Nat.le_refl _) _⟩
  rcases hp : permB ys with _ | _
  · rw [show lvMove xs ys = ([], false) by simp [lvMove, hp]]
    rw [hb] at HV
    rw [hp] at HW
    clear ha ha2 hx hy hb hp
    generalize xs.length = n at *
    generalize ys.length = m at *
    go_enter Try.func4, Try.ntmps4
    go_wp2_with fail
    refine HV.out.mono ?_
    rintro e w' ⟨rfl, rfl⟩
    go_wp2_with fail
    refine HW.out.mono ?_
    rintro e w' ⟨rfl, rfl⟩
    go_wp2_with fail
    go_ret2
    exact ⟨_, rfl, Nat.le_refl _, HE.out, (Below.refl _ _).alloc (Nat.le_refl _) _⟩
  rw [show lvMove xs ys = (lmL xs ys 24, true) by simp [lvMove, hb, hp]]
  rw [hb] at HV
  rw [hp] at HW
  have HAT := Lib.hid (fun k hk => permB_at hp k hk)
  have HML := Lib.hid (lmL_len xs ys)
  have HMS := Lib.hid (fun k (hk : k < 24) => show (lmL xs ys k).set ((natP ys).getD k 0) (xs.getD k 0) = lmL xs ys (k + 1) by rw [lmL_succ, putL, (permB_at hp k hk).1]; simp)
  have HM0 := Lib.hid (show lmL xs ys 0 = z24 from rfl)
  generalize lmL xs ys = M at *
  have HL := Lib.hid (vecB_len hb)
  have HL2 := Lib.hid (permB_len hp)
  clear hb hp hx hy
  go_enter Try.func4, Try.ntmps4
  go_wp2_with fail
  refine HV.out.mono ?_
  rintro e w' ⟨rfl, rfl⟩
  go_wp2_with fail
  refine HW.out.mono ?_
  rintro e w' ⟨rfl, rfl⟩
  go_wp2_with fail
  go_loopw [7] (fun i wr => ∃ p : Nat, p ≤ 24 ∧ i = .int .i64 p ∧ Hid (wr.heap[w.heap.size]? = some (.cells (VL (M p)) 3 (0, 0))) ∧ Hid (Below w.heap.size w wr)) (fun i _ => 24 - (intOf i).toNat)
  case atStart => exact ⟨0, by omega, rfl, Lib.hid (by rw [HM0.out]; exact heap_alloc_new w _), Lib.hid ((Below.refl _ _).alloc (Nat.le_refl _) _)⟩
  case round =>
    obtain ⟨k, hk, rfl, h2, hbl⟩ := hrel
    clear HE
    by_cases hlt : k < 24
    · obtain ⟨e1, hq⟩ := HAT.out k hlt
      obtain ⟨B1, o1, rfl, hB1, c1⟩ := (ha.below hbl.out).at_ (j := k) (by have := HL.out; omega)
      obtain ⟨B2, o2, rfl, hB2, c2⟩ := (ha2.below hbl.out).at_ (j := k) (by have := HL2.out; omega)
      have k1 : (k : Int) < xs.length := by have := HL.out; omega
      have k2 : (k : Int) < ys.length := by have := HL2.out; omega
      rw [e1] at c2
      have HF := Lib.hid (fun X => row_set (X := X) h2.out (by omega) hbl.out (HMS.out k hlt))
      generalize (natP ys).getD k 0 = q at *
      have hq1 : (0 : Int) ≤ (q : Int) := by omega
      have hq2 : (q : Int) < 24 := by omega
      have hcx := VL_at (j := q) _ (by rw [HML.out k]; exact hq) h2.out
      have hfx : wr.frozen? ⟨w.heap.size, q, none⟩ = false := Lib.frozen_of_heap h2.out _
      clear e1
      generalize (M k).getD q 0 = z at *
      generalize xs.getD k 0 = x at *
      go_wp2_with fail
      go_region
      all_goals
       go_wp2_with fail
       go_roundw
       case rel =>
        refine ⟨k + 1, by omega, by go_num, Lib.hid ?_, Lib.hid ?_⟩
        · exact (HF.out _ rfl ⟨rfl, rfl, rfl⟩).1
        · exact (HF.out _ rfl ⟨rfl, rfl, rfl⟩).2.2.drew
       case measure => simp [intOf]; omega
    · obtain rfl : k = 24 := by omega
      have HO := Lib.hid (show ∃ g, Ending.returned (.tuple #[.slice (some ⟨w.heap.size, 0, none⟩) 24 24, .bool true]) = .returned (.tuple #[.slice (some ⟨g, 0, none⟩) (M 24).length (M 24).length, .bool true]) ∧ w.heap.size ≤ g ∧ wr.heap[g]? = some (.cells (VL (M 24)) 3) ∧ Below w.heap.size w wr from ⟨_, by rw [HML.out], Nat.le_refl _, h2.out, hbl.out⟩)
      clear h2
      go_wp2_with fail
      go_ret2
      exact HO.out

end Go.Proofs.Ytiodikflmijhkaa
/- The law's scope: which functions its own phases enter, tested by program. -/
set_option linter.unusedSectionVars false
set_option linter.unusedVariables false
namespace Go.Proofs.Ytiodikflmijhkaa
open Go Go.Conc Go.ConcN Go.RowKit Farm Vow
open Go.ConcR (KK wgBlock WgAt stA smA rd wr mk Payload Aside2 DC0)

def lL : List FuncId := [4, 5, 7, 8, 9, 10, 11, 12, 13, 15, 16, 17, 18, 19, 25, 45, 46, 47, 48]
def fL (f : FuncId) : Bool := lL.contains f
def gL (g : Nat) : Bool := false
def scL (D : Nat → Prop) : Scope := ⟨D, fun f => fL f = true⟩
theorem all_known : (lL.all fun f => funcB Try.prog gL fL f) = true := by kernel_rfl
theorem fitsL (D : Nat → Prop) : Fits (scL D) Try.prog gL fL :=
  ⟨(fun g h => by cases h), fun f h => h, fun f h => List.all_eq_true.1 all_known f (by
    have h' : lL.contains f = true := h
    simpa using h')⟩
theorem scopeL (D : Nat → Prop) : ScopeOk (scL D) Try.prog := scope_ok (fitsL D)

section
variable [Payload] {P : Program} {ty : TypeId} {st : MSt} {S : Scope} {b : Frame} {a : Act} {k : List Item} {cs : List Frame} {w : World} {ops : Array Oper} {i : Nat} {rest : List Nat} {o : Oper} {Fin : Value → World → Prop}
/-- A silent stretch in the law's own phases. -/
theorem done_silent {n : Nat} {g : Goroutine} (htag : st.tag = .law) (hd : st.d = 0) (h : Goes P true (ROf ty st) DC0 (fun g w => g.status = .running ∧ Done P ty Fin st g w) n g w) : Done P ty Fin st g w :=
  done_of_goes htag hd (fun _ _ h => h.1) (goesD dm_of_dc0 h) fun _ _ h => h.2
theorem done_dm {n : Nat} {g : Goroutine} (htag : st.tag = .law) (hd : st.d = 0) (h : Goes P true (ROf ty st) (DM st) (fun g w => g.status = .running ∧ Done P ty Fin st g w) n g w) : Done P ty Fin st g w :=
  done_of_goes htag hd (fun _ _ h => h.1) h fun _ _ h => h.2
/-- What a law's phase suffers: the draws alone. -/
theorem at_rely {F : World → Prop} (hF : ∀ w d, F w → F (w.at d)) (htag : st.tag = .law) {w w₁ : World} (h : F w) (r : ROf ty st w w₁) : F w₁ := by
  obtain ⟨d, rfl⟩ := r.1 htag
  exact hF _ _ h
theorem frOk_region {gB : Nat → Bool} {fB : FuncId → Bool} (hF : Fits S P gB fB) {f : FuncId} (ha : a.defers = []) (ht : TmpsOk S a.tmps) {l : List Nat} (ho : (ops.all fun o => opB P gB fB o.op) = true) : FrOk S P ((base f).at a [.inRegion ops l]) :=
  ⟨ha, rfl, ht, fun it hit => by
    rw [show ((base f).at a [.inRegion ops l]).todo = [.inRegion ops l] from rfl, List.mem_singleton] at hit
    subst hit
    exact fun o ho' => op_ok hF (Array.all_eq_true_iff_forall_mem.1 ho o ho')⟩
theorem ok_nil : ∀ v ∈ ([] : List Value), Ok S v := fun _ h => absurd h List.not_mem_nil
theorem ok_cons {v : Value} {l : List Value} (h : Ok S v) (hl : ∀ v ∈ l, Ok S v) : ∀ x ∈ v :: l, Ok S x := fun x hx => (List.mem_cons.1 hx).elim (fun e => e ▸ h) (hl x)
theorem tmpsOk_list {l : List Value} (h : ∀ v ∈ l, Ok S v) : TmpsOk S l.toArray := fun v hv => h v (by simpa using hv)
end
section
variable {S : Scope} {w : World}
theorem heapOk_alloc (h : HeapOk S w) {o : Obj} (ho : OkObj S o) : HeapOk S (w.alloc o) :=
  ⟨fun b hb => by have := h.low b hb; simp; omega, fun b x hx hb => by
    by_cases e : b = w.heap.size
    · subst e
      rw [heap_alloc_new] at hx
      cases hx
      exact ho
    · have hlt : b < w.heap.size := by
        have := (Array.getElem?_eq_some_iff.1 hx).1
        simp at this
        omega
      rw [Farm.heap_alloc_ne _ _ hlt] at hx
      exact h.obj b x hx hb⟩
theorem heapOk_setRow (h : HeapOk S w) {g : Nat} {cs vs : Array Value} {t : TypeId} (hg : w.heap[g]? = some (.cells cs t)) (hv : ∀ v ∈ vs, Ok S v) : HeapOk S (w.setRow g vs) := by
  have ht := turn_row (vs := vs) hg
  refine ⟨fun b hb => by rw [ht.1.2.2.2]; exact h.low b hb, fun b x hx hb => ?_⟩
  by_cases e : b = g
  · subst e
    rw [ht.2.2] at hx
    cases hx
    exact hv
  · rw [ht.2.1 b e] at hx
    exact h.obj b x hx hb
theorem heapOk_at {d : Nat} (h : HeapOk S w) : HeapOk S (w.at d) := ⟨h.low, h.obj⟩
theorem VL_ok (L : List Int) : ∀ v ∈ VL L, Ok S v := fun v hv => by
  simp only [VL, List.mem_toArray, List.mem_map] at hv
  obtain ⟨x, _, rfl⟩ := hv
  exact .int _ _
theorem below_at {B d : Nat} {w0 : World} (h : Below B w0 w) : Below B w0 (w.at d) := ⟨h.os, h.tape, h.output, h.size, h.block⟩
theorem below_tp {B : Nat} {w w1 : World} {T T' : Nat → Question → Nat} {d d' : Nat} (h : Below B (tp w T d) (tp w1 T' d')) (ht : w1.tape = w.tape) : Below B w w1 := ⟨h.os, ht, h.output, h.size, h.block⟩
end
section
variable {P : Program} {main : Bool} {b : Frame} {a : Act} {cs : List Frame} {w : World}
theorem stepG_leave2 {fn : Func} {todo : List Item} {c : Frame} {t u : Tmp} (hn : b.kind = .normal) (hd : a.defers = []) (hf : P.funcs[b.fn]? = some fn) (hr : fn.results = #[.tmp t, .tmp u]) :
    stepG P main (G { b.at a todo with mode := .returning } (c :: cs)) w = .go (G (c.finish (.tuple #[a.tmps.getD t undef, a.tmps.getD u undef])) cs) w #[] :=
  stepG_leave hn hd hf (results_tmp2 hr _ P w) (events_results_tmp2 hr _ _)
end

/-- Where a phase of the law's own stands. -/
structure PH (st : MSt) (D : Nat → Prop) (w : World) : Prop where
  tag : st.tag = .law
  d : st.d = 0
  may : ∀ b, ¬ D b → st.may b ∧ ¬ st.grp b
  mz : ∀ b, st.may b → ¬ st.zone b ∧ ¬ st.grp b
  fr : ∀ b, w.heap.size ≤ b → st.may b
  gl : ∀ b, st.grp b → b < w.heap.size
theorem PH.more {st : MSt} {D : Nat → Prop} {w w' : World} (h : PH st D w) (hs : w.heap.size ≤ w'.heap.size) : PH st D w' :=
  ⟨h.tag, h.d, h.may, h.mz, fun b hb => h.fr b (by omega), fun b hb => Nat.lt_of_lt_of_le (h.gl b hb) hs⟩
/-- A block that holds integers alone. -/
def IntRow (w : World) (b : Nat) : Prop := ∃ cs t f, w.heap[b]? = some (.cells cs t f) ∧ ∀ v ∈ cs, ∃ k n, v = .int k n
theorem IntRow.lt {w : World} {b : Nat} (h : IntRow w b) : b < w.heap.size := by
  obtain ⟨cs, t, f, h, _⟩ := h
  exact (Array.getElem?_eq_some_iff.1 h).1
theorem IntRow.below {B : Nat} {w w' : World} {b : Nat} (h : IntRow w b) (hb : Below B w w') (hB : b < B) : IntRow w' b := by
  obtain ⟨cs, t, f, h, h2⟩ := h
  exact ⟨cs, t, f, (hb.block b hB).trans h, h2⟩
theorem IntRow.VL {w : World} {b : Nat} {L : List Int} {t : TypeId} (h : w.heap[b]? = some (.cells (VL L) t)) : IntRow w b := ⟨_, _, _, h, fun v hv => by
  simp only [_root_.Go.Proofs.Ytiodikflmijhkaa.VL, List.mem_toArray, List.mem_map] at hv
  obtain ⟨x, _, rfl⟩ := hv
  exact ⟨_, _, rfl⟩⟩
/-- All but the known blocks are forbidden. -/
def Dk (K : Nat → Prop) (n b : Nat) : Prop := b < n ∧ ¬ K b
theorem heapOk_dk {K : Nat → Prop} {w : World} (hK : ∀ b, K b → IntRow w b) : HeapOk (scL (Dk K w.heap.size)) w :=
  ⟨fun b hb => hb.1, fun b o ho hb => by
    have hlt := (Array.getElem?_eq_some_iff.1 ho).1
    have hk : K b := Classical.byContradiction fun h => hb ⟨hlt, h⟩
    obtain ⟨cs, t, f, h1, h2⟩ := hK b hk
    rw [ho] at h1
    cases h1
    intro v hv
    obtain ⟨k, n, rfl⟩ := h2 v hv
    exact .int _ _⟩

section
variable {st : MSt} {D K : Nat → Prop} {w : World} {Lv Lp : List Int} {c : Frame} {cs : List Frame} {Fin : Value → World → Prop}
/-- ████ 'moved' IN A LAW'S PHASE. ████ -/
theorem movedDone (hP : PH st D w) (hgs : st.gs + 4 < 1000) (hLv : Lv.length = 24) (hLp : Lp.length = 24) (hp : ∀ x ∈ Lp, 0 ≤ x ∧ x < 24) (hK : ∀ b, K b → ¬ D b ∧ IntRow w b)
    (hcont : ∀ st' w', PH st' (Dk K w'.heap.size) w' → HeapOk (scL (Dk K w'.heap.size)) w' → st'.gs = st.gs + 4 → (∀ b, st'.grp b → b < w.heap.size → st.grp b) → Below w.heap.size w w' → Done Try.prog 55 Fin st' (G (c.finish (.agg (VL (mvL Lv Lp)))) cs) w') :
    Done Try.prog 55 Fin st (G (b14.at ⟨#[.agg (VL Lv), .agg (VL Lp), undef, undef, undef, undef, undef, undef, undef, undef, undef, undef, undef, undef, undef, undef, undef, undef, undef, undef, undef, undef, undef, undef, undef, undef, undef, undef, undef, undef, undef, undef, undef, undef, undef, undef, undef, undef, undef], []⟩ [.code bodyM]) (c :: cs)) w := by
  obtain ⟨tag, d, wg0, bd0, gs0, grp0, may0, zone0, chs0, q0⟩ := st
  obtain ⟨h1, h2, h3, h4, h5, h6⟩ := hP
  simp only at h1 h2
  subst h1 h2
  refine done_of_sc (fun st' g w' h _ _ => ?_) rfl (movedSc hLv hLp hp hgs h5 h4 h6)
  rw [h.g]
  have hb : Below w.heap.size w w' := ⟨h.os, h.tape, h.output, h.size, h.low⟩
  refine hcont st' w' ⟨h.tag, h.d, fun b hb => ?_, h.mz, fun b hb => h.may b (h5 b (Nat.le_trans h.size hb)) (.inr hb), h.grp⟩ (heapOk_dk fun b hb' => (hK b hb').2.below hb (hK b hb').2.lt) h.gs h.g0 hb
  by_cases hk : K b
  · have hm := h.may b (h3 b (hK b hk).1).1 (.inl (hK b hk).2.lt)
    exact ⟨hm, (h.mz b hm).2⟩
  · have hge : w'.heap.size ≤ b := Nat.le_of_not_lt fun hlt => hb ⟨hlt, hk⟩
    have hm := h.may b (h5 b (Nat.le_trans h.size hge)) (.inr hge)
    exact ⟨hm, (h.mz b hm).2⟩
end
end Go.Proofs.Ytiodikflmijhkaa
/- The program's LatticeMove, in a law's phase. -/
set_option linter.unusedSectionVars false
set_option linter.unusedVariables false
set_option linter.unusedSimpArgs false
namespace Go.Proofs.Ytiodikflmijhkaa
open Go Go.Conc Go.ConcN Go.RowKit Go.Conc.Lib Go.ConcR.Gen Go.ConcN.Gen Farm Vow
open Go.ConcR (KK wgBlock WgAt stA smA rd wr mk Payload Aside2 DC0)
attribute [local irreducible] cN syn

noncomputable def bodyL : Code := Try.f6.body.getD .skip
abbrev b6 : Frame := base 6
theorem nmVF : (Try.f12.name == "runtime.NumGoroutine") = false := by kernel_rfl
theorem nmPF : (Try.f13.name == "runtime.NumGoroutine") = false := by kernel_rfl
theorem nmMV : (Try.f14.name == "runtime.NumGoroutine") = false := by kernel_rfl
theorem permB_rng {ys : List Int} (h : permB ys = true) : ∀ x ∈ ys, 0 ≤ x ∧ x < 24 := fun x hx => by
  have hl := permB_len h
  obtain ⟨i, hi, e⟩ := List.getElem_of_mem hx
  obtain ⟨h1, h2⟩ := permB_at h i (by omega)
  rw [List.getD_eq_getElem?_getD, List.getElem?_eq_getElem hi, Option.getD_some, e] at h1
  omega
theorem mvL_len (xs ys : List Int) : (mvL xs ys).length = 24 := accL_len xs ys 4
theorem z24_len : z24.length = 24 := rfl
theorem below_setRow {B g : Nat} {w0 w : World} {vs : Array Value} (h : Below B w0 w) (hg : B ≤ g) : Below B w0 (w.setRow g vs) :=
  h.trans ⟨rfl, rfl, rfl, by simp, fun k hk => setRow_other w g k vs (by omega)⟩
theorem nmLI : (Try.f15.name == "runtime.NumGoroutine") = false := by kernel_rfl

section
variable {st : MSt} {D : Nat → Prop} {Fin : Value → World → Prop} {w0 : World} {A A2 : Option Addr} {c1 c2 : Nat} {xs ys : List Int} {c : Frame} {cs : List Frame}

set_option maxRecDepth 100000 in
set_option maxHeartbeats 16000000 in
theorem latticeMove_done (hP : PH st D w0) (hw : HeapOk (scL D) w0) (ha : Rds w0 w0.heap.size .i64 A xs) (hx : xs.length ≤ maxLen) (ha2 : Rds w0 w0.heap.size .i64 A2 ys) (hy : ys.length ≤ maxLen)
    {K : Nat → Prop} (hKn : ∀ b, K b → ¬ D b ∧ IntRow w0 b) (okA : ∀ x, A = some x → K x.block) (okA2 : ∀ x, A2 = some x → K x.block) (hgs : st.gs + 4 < 1000)
    (hno : (vecB xs && permB ys) = false → ∀ w1, Below w0.heap.size w0 w1 → HeapOk (scL D) w1 → Done Try.prog 55 Fin st (G (c.finish (.tuple #[.slice none 0 0, .bool false])) cs) w1)
    (hyes : (vecB xs && permB ys) = true → ∀ st1 D1 w1 g, PH st1 D1 w1 → HeapOk (scL D1) w1 → (∀ b, K b → ¬ D1 b) → st1.gs = st.gs + 4 → (∀ b, st1.grp b → b < w0.heap.size → st.grp b) → Below w0.heap.size w0 w1 → w0.heap.size ≤ g → w1.heap[g]? = some (.cells (VL (lmL xs ys 24)) 30) → ¬ D1 g → Done Try.prog 55 Fin st1 (G (c.finish (.tuple #[.slice (some ⟨g, 0, none⟩) 24 24, .bool true])) cs) w1)
    : Done Try.prog 55 Fin st (G (b6.at ⟨#[.slice A xs.length c1, .slice A2 ys.length c2, undef, undef, undef, undef, undef, undef, undef, undef, undef, undef, undef, undef, undef, undef, undef, undef, undef, undef, undef, undef, undef, undef, undef, undef, undef], []⟩ [.code bodyL]) (c :: cs)) w0 := by
  have ok1 : Ok (scL D) (.slice A xs.length c1) := .slice _ _ _ fun x hx => (hKn _ (okA x hx)).1
  have ok2 : Ok (scL D) (.slice A2 ys.length c2) := .slice _ _ _ fun x hx => (hKn _ (okA2 x hx)).1
  have hF : (Below w0.heap.size w0 w0 ∧ HeapOk (scL D) w0) := ⟨Below.refl _ _, hw⟩
  have fm : ∀ {w w₁ : World}, (Below w0.heap.size w0 w ∧ HeapOk (scL D) w) → ROf 55 st w w₁ → (Below w0.heap.size w0 w₁ ∧ HeapOk (scL D) w₁) := fun hh rr => at_rely (F := fun w => (Below w0.heap.size w0 w ∧ HeapOk (scL D) w)) (fun w d h => ⟨below_at h.1, heapOk_at h.2⟩) hP.tag hh rr
  simp only [bodyL, Try.f6, Option.getD_some]
  refine done_silent (n := 12) hP.tag hP.d ?_
  u_c stepG_seq fm hF
  u_reg fm hF
  u_op fm hF
  u_op fm hF
  u_c stepG_region_end fm hF
  u_c stepG_seq fm hF
  u_reg fm hF
  u_op fm hF
  refine Goes.stop (fun w₁ h₁ => ?_)
  replace hF := fm hF h₁
  clear h₁
  refine ⟨rfl, done_call (S := scL D) (vs := #[.slice A xs.length c1]) (R := fun T d e w' => e = .returned (.tuple #[.agg (VL (vcL xs)), .bool (vecB xs)]) ∧ Below (tp w₁ T d).heap.size (tp w₁ T d) w') (scopeL D) hP.tag hP.may rfl rfl (by k_ne) rfl Try.func12 nmVF rfl (frOk_region (fitsL _) rfl (tmpsOk_list (by repeat (first | exact ok_nil | (refine ok_cons (by first | exact ok_undef | exact .int _ _ | exact .bool _ | exact ok_nilslice | assumption) ?_)))) (by kernel_rfl)) hF.2 (by simp [Act.eval]) (fun T d => vecFrom_calls A c1 xs (tp w₁ T d) ((ha.below hF.1).more hF.1.size) hx) (fun T d e w' h => ⟨_, h.1⟩) fun v w2 T d T' d' hr hw2 hfr2 htp => ?_⟩
  obtain ⟨he, hb⟩ := hr
  cases he
  replace hF : (Below w0.heap.size w0 w2 ∧ HeapOk (scL D) w2) := ⟨hF.1.trans ((below_tp hb htp).mono hF.1.size), hw2⟩
  clear hb htp hfr2 hw2
  rcases hv : vecB xs with _ | _
  · have hno' := hno (by rw [hv]; rfl)
    clear hno
    have fm : ∀ {w w₁ : World}, (Below w0.heap.size w0 w ∧ HeapOk (scL D) w) → ROf 55 st w w₁ → (Below w0.heap.size w0 w₁ ∧ HeapOk (scL D) w₁) := fun hh rr => at_rely (F := fun w => (Below w0.heap.size w0 w ∧ HeapOk (scL D) w)) (fun w d h => ⟨below_at h.1, heapOk_at h.2⟩) hP.tag hh rr
    refine done_dm (n := 5 + (1 + (1 + 20))) hP.tag hP.d ?_
    refine goes_join (n := 5) (m := 22) dm_nil (ROf.refl _ _) ?_
    walk_nrm
    u_op fm hF
    u_op fm hF
    u_op fm hF
    refine Goes.stop (fun w₁ h₁ => ?_)
    replace hF := fm hF h₁
    clear h₁
    refine Goes.step rfl (fun w₁ h₁ => ?_)
    replace hF := fm hF h₁
    clear h₁
    rw [stepG_alloc rfl rfl (by k_ne) rfl Try.zeroValue30]
    simp only [goes_go]
    refine ⟨dm_law hP.tag _, ?_⟩
    walk_nrm
    have hP1 := hP.more hF.1.size
    have hF1 : Below w0.heap.size w0 (w₁.alloc (.cells (VL z24) 30)) ∧ HeapOk (scL D) (w₁.alloc (.cells (VL z24) 30)) := ⟨hF.1.alloc hF.1.size _, heapOk_alloc hF.2 (VL_ok _)⟩
    have hn1 : (w₁.alloc (.cells (VL z24) 30)).heap[w₁.heap.size]? = some (.cells (VL z24) 30) := heap_alloc_new _ _
    have hsz := hF.1.size
    have hm1 := hP1.fr w₁.heap.size (Nat.le_refl _)
    have hg1 := (hP1.mz _ hm1).2
    show Goes _ _ _ _ _ _ _ (w₁.alloc (.cells (VL z24) 30))
    revert hF1 hn1 hsz hm1 hg1
    generalize w₁.alloc (.cells (VL z24) 30) = w₂
    generalize w₁.heap.size = B6
    intro hF1 hn1 hsz hm1 hg1
    replace hF := hF1
    clear hF1 fm hP1
    replace hF := And.intro hF.1 (And.intro hF.2 hn1)
    clear hn1
    have fm : ∀ {w w₁ : World}, (Below w0.heap.size w0 w ∧ HeapOk (scL D) w ∧ w.heap[B6]? = some (.cells (VL z24) 30)) → ROf 55 st w w₁ → (Below w0.heap.size w0 w₁ ∧ HeapOk (scL D) w₁ ∧ w₁.heap[B6]? = some (.cells (VL z24) 30)) := fun hh rr => at_rely (F := fun w => (Below w0.heap.size w0 w ∧ HeapOk (scL D) w ∧ w.heap[B6]? = some (.cells (VL z24) 30))) (fun w d h => ⟨below_at h.1, heapOk_at h.2.1, h.2.2⟩) hP.tag hh rr
    refine Goes.step rfl (fun w₁ h₁ => ?_)
    replace hF := fm hF h₁
    clear h₁
    clear fm
    refine goes_ex (stepG_storeR (vs := VL (vcL xs)) rfl rfl (by k_ne) rfl rfl rfl hF.2.2 (vInfoL _ (vcL_len xs)) (by rw [VL_size, VL_size, vcL_len]; rfl) (VL_all _) (fun w => by rw [VL_size, vcL_len]; exact szV w)) fun es hes => ⟨dm_setRow hes hm1 hg1 (lt_of_some' hF.2.2), ?_⟩
    clear es hes
    have ht := turn_row (vs := VL (vcL xs)) hF.2.2
    replace hF : (Below w0.heap.size w0 (w₁.setRow B6 (VL (vcL xs))) ∧ HeapOk (scL D) (w₁.setRow B6 (VL (vcL xs))) ∧ (w₁.setRow B6 (VL (vcL xs))).heap[B6]? = some (.cells (VL (vcL xs)) 30) ∧ w0.heap.size ≤ B6) := ⟨below_setRow hF.1 hsz, heapOk_setRow hF.2.1 hF.2.2 (VL_ok _), ht.2.2, hsz⟩
    clear ht hm1 hg1 hsz
    generalize w₁.setRow _ _ = w₂ at hF ⊢
    have fm : ∀ {w w₁ : World}, (Below w0.heap.size w0 w ∧ HeapOk (scL D) w ∧ w.heap[B6]? = some (.cells (VL (vcL xs)) 30) ∧ w0.heap.size ≤ B6) → ROf 55 st w w₁ → (Below w0.heap.size w0 w₁ ∧ HeapOk (scL D) w₁ ∧ w₁.heap[B6]? = some (.cells (VL (vcL xs)) 30) ∧ w0.heap.size ≤ B6) := fun hh rr => at_rely (F := fun w => (Below w0.heap.size w0 w ∧ HeapOk (scL D) w ∧ w.heap[B6]? = some (.cells (VL (vcL xs)) 30) ∧ w0.heap.size ≤ B6)) (fun w d h => ⟨below_at h.1, heapOk_at h.2.1, h.2.2.1, h.2.2.2⟩) hP.tag hh rr
    refine goes_join (n := 20) (m := 0) dm_nil (ROf.refl _ _) ?_
    walk_nrm
    u_op fm hF
    u_c stepG_region_end fm hF
    u_c stepG_seq fm hF
    u_c stepG_seq fm hF
    u_reg fm hF
    u_op fm hF
    u_op fm hF
    u_c stepG_region_end fm hF
    u_cond true fm hF
    u_c stepG_seq fm hF
    u_reg fm hF
    u_op fm hF
    u_op fm hF
    u_c stepG_region_end fm hF
    u_c stepG_ret' fm hF
    refine Goes.step rfl (fun w₁ h₁ => ?_)
    replace hF := fm hF h₁
    clear h₁
    rw [stepG_leave2 rfl rfl Try.func6 rfl]
    simp only [goes_go]
    refine ⟨by u_nil, ?_⟩
    refine Goes.stop (fun w₁ h₁ => Goes.stop fun w₂ h₂ => ?_)
    replace hF := fm (fm hF h₁) h₂
    exact ⟨rfl, hno' _ hF.1 hF.2.1⟩
  rw [vcL_yes (vecB_len hv)]
  have hl := vecB_len hv
  have ok1' : Ok (scL D) (.slice A 24 c1) := by rw [← hl]; exact ok1
  have okT : Ok (scL D) (.tuple #[.agg (VL xs), .bool true]) := .tuple _ (by intro v h; simp only [List.mem_toArray, List.mem_cons, List.not_mem_nil, or_false] at h; rcases h with rfl | rfl; exact .agg _ (VL_ok _); exact .bool _)
  have okV : Ok (scL D) (.agg (VL xs)) := .agg _ (VL_ok _)
  have fm : ∀ {w w₁ : World}, (Below w0.heap.size w0 w ∧ HeapOk (scL D) w) → ROf 55 st w w₁ → (Below w0.heap.size w0 w₁ ∧ HeapOk (scL D) w₁) := fun hh rr => at_rely (F := fun w => (Below w0.heap.size w0 w ∧ HeapOk (scL D) w)) (fun w d h => ⟨below_at h.1, heapOk_at h.2⟩) hP.tag hh rr
  refine done_dm (n := 5 + (1 + (1 + 20))) hP.tag hP.d ?_
  refine goes_join (n := 5) (m := 22) dm_nil (ROf.refl _ _) ?_
  walk_nrm
  u_op fm hF
  u_op fm hF
  u_op fm hF
  refine Goes.stop (fun w₁ h₁ => ?_)
  replace hF := fm hF h₁
  clear h₁
  refine Goes.step rfl (fun w₁ h₁ => ?_)
  replace hF := fm hF h₁
  clear h₁
  rw [stepG_alloc rfl rfl (by k_ne) rfl Try.zeroValue30]
  simp only [goes_go]
  refine ⟨dm_law hP.tag _, ?_⟩
  walk_nrm
  have hP1 := hP.more hF.1.size
  have hF1 : Below w0.heap.size w0 (w₁.alloc (.cells (VL z24) 30)) ∧ HeapOk (scL D) (w₁.alloc (.cells (VL z24) 30)) := ⟨hF.1.alloc hF.1.size _, heapOk_alloc hF.2 (VL_ok _)⟩
  have hn1 : (w₁.alloc (.cells (VL z24) 30)).heap[w₁.heap.size]? = some (.cells (VL z24) 30) := heap_alloc_new _ _
  have hsz := hF.1.size
  have hm1 := hP1.fr w₁.heap.size (Nat.le_refl _)
  have hg1 := (hP1.mz _ hm1).2
  show Goes _ _ _ _ _ _ _ (w₁.alloc (.cells (VL z24) 30))
  revert hF1 hn1 hsz hm1 hg1
  generalize w₁.alloc (.cells (VL z24) 30) = w₂
  generalize w₁.heap.size = B6
  intro hF1 hn1 hsz hm1 hg1
  replace hF := hF1
  clear hF1 fm hP1
  replace hF := And.intro hF.1 (And.intro hF.2 hn1)
  clear hn1
  have fm : ∀ {w w₁ : World}, (Below w0.heap.size w0 w ∧ HeapOk (scL D) w ∧ w.heap[B6]? = some (.cells (VL z24) 30)) → ROf 55 st w w₁ → (Below w0.heap.size w0 w₁ ∧ HeapOk (scL D) w₁ ∧ w₁.heap[B6]? = some (.cells (VL z24) 30)) := fun hh rr => at_rely (F := fun w => (Below w0.heap.size w0 w ∧ HeapOk (scL D) w ∧ w.heap[B6]? = some (.cells (VL z24) 30))) (fun w d h => ⟨below_at h.1, heapOk_at h.2.1, h.2.2⟩) hP.tag hh rr
  refine Goes.step rfl (fun w₁ h₁ => ?_)
  replace hF := fm hF h₁
  clear h₁
  clear fm
  refine goes_ex (stepG_storeR (vs := VL (xs)) rfl rfl (by k_ne) rfl rfl rfl hF.2.2 (vInfoL _ hl) (by rw [VL_size, VL_size, hl]; rfl) (VL_all _) (fun w => by rw [VL_size, hl]; exact szV w)) fun es hes => ⟨dm_setRow hes hm1 hg1 (lt_of_some' hF.2.2), ?_⟩
  clear es hes
  have ht := turn_row (vs := VL (xs)) hF.2.2
  replace hF : (Below w0.heap.size w0 (w₁.setRow B6 (VL (xs))) ∧ HeapOk (scL D) (w₁.setRow B6 (VL (xs))) ∧ (w₁.setRow B6 (VL (xs))).heap[B6]? = some (.cells (VL (xs)) 30) ∧ w0.heap.size ≤ B6) := ⟨below_setRow hF.1 hsz, heapOk_setRow hF.2.1 hF.2.2 (VL_ok _), ht.2.2, hsz⟩
  clear ht hm1 hg1 hsz
  generalize w₁.setRow _ _ = w₂ at hF ⊢
  have fm : ∀ {w w₁ : World}, (Below w0.heap.size w0 w ∧ HeapOk (scL D) w ∧ w.heap[B6]? = some (.cells (VL (xs)) 30) ∧ w0.heap.size ≤ B6) → ROf 55 st w w₁ → (Below w0.heap.size w0 w₁ ∧ HeapOk (scL D) w₁ ∧ w₁.heap[B6]? = some (.cells (VL (xs)) 30) ∧ w0.heap.size ≤ B6) := fun hh rr => at_rely (F := fun w => (Below w0.heap.size w0 w ∧ HeapOk (scL D) w ∧ w.heap[B6]? = some (.cells (VL (xs)) 30) ∧ w0.heap.size ≤ B6)) (fun w d h => ⟨below_at h.1, heapOk_at h.2.1, h.2.2.1, h.2.2.2⟩) hP.tag hh rr
  refine goes_join (n := 20) (m := 0) dm_nil (ROf.refl _ _) ?_
  walk_nrm
  u_op fm hF
  u_c stepG_region_end fm hF
  u_c stepG_seq fm hF
  u_c stepG_seq fm hF
  u_reg fm hF
  u_op fm hF
  u_op fm hF
  u_c stepG_region_end fm hF
  u_cond false fm hF
  u_c stepG_skip fm hF
  u_c stepG_seq fm hF
  u_reg fm hF
  u_op fm hF
  refine Goes.stop (fun w₁ h₁ => ?_)
  replace hF := fm hF h₁
  clear h₁
  refine Goes.stop (fun w₁ h₁ => ?_)
  replace hF := fm hF h₁
  clear h₁
  have okB6 : Ok (scL D) (.pointer (some ⟨B6, 0, none⟩)) := ok_pointer.2 fun h => by have := hw.low _ h; have := hF.2.2.2; simp only at *; omega
  clear fm
  rcases hp : permB ys with _ | _
  · have hno' := hno (by rw [hv, hp]; rfl)
    clear hno
    refine ⟨rfl, done_call (S := scL D) (vs := #[.slice A2 ys.length c2]) (R := fun T d e w' => e = .returned (.tuple #[.agg (VL z24), .bool false]) ∧ Below (tp w₁ T d).heap.size (tp w₁ T d) w') (scopeL D) hP.tag hP.may rfl rfl (by k_ne) rfl Try.func13 nmPF rfl (frOk_region (fitsL _) rfl (tmpsOk_list (by repeat (first | exact ok_nil | (refine ok_cons (by first | exact ok_undef | exact .int _ _ | exact .bool _ | exact ok_nilslice | assumption) ?_)))) (by kernel_rfl)) hF.2.1 (by simp [Act.eval]) (fun T d => permFrom_no A2 c2 ys (tp w₁ T d) ((ha2.below hF.1).more hF.1.size) hy hp) (fun T d e w' h => ⟨_, h.1⟩) fun v w2 T d T' d' hr hw2 hfr2 htp => ?_⟩
    obtain ⟨he, hb⟩ := hr
    cases he
    have hb' := below_tp hb htp
    replace hF : (Below w0.heap.size w0 w2 ∧ HeapOk (scL D) w2 ∧ w2.heap[B6]? = some (.cells (VL xs) 30) ∧ w0.heap.size ≤ B6) := ⟨hF.1.trans (hb'.mono hF.1.size), hw2, (hb'.block _ (lt_of_some' hF.2.2.1)).trans hF.2.2.1, hF.2.2.2⟩
    clear hb hb' htp hfr2 hw2
    have fm : ∀ {w w₁ : World}, (Below w0.heap.size w0 w ∧ HeapOk (scL D) w ∧ w.heap[B6]? = some (.cells (VL xs) 30) ∧ w0.heap.size ≤ B6) → ROf 55 st w w₁ → (Below w0.heap.size w0 w₁ ∧ HeapOk (scL D) w₁ ∧ w₁.heap[B6]? = some (.cells (VL xs) 30) ∧ w0.heap.size ≤ B6) := fun hh rr => at_rely (F := fun w => (Below w0.heap.size w0 w ∧ HeapOk (scL D) w ∧ w.heap[B6]? = some (.cells (VL xs) 30) ∧ w0.heap.size ≤ B6)) (fun w d h => ⟨below_at h.1, heapOk_at h.2.1, h.2.2.1, h.2.2.2⟩) hP.tag hh rr
    refine done_dm (n := 5 + (1 + (1 + 40))) hP.tag hP.d ?_
    refine goes_join (n := 5) (m := 42) dm_nil (ROf.refl _ _) ?_
    walk_nrm
    u_op fm hF
    u_op fm hF
    u_op fm hF
    refine Goes.stop (fun w₁ h₁ => ?_)
    replace hF := fm hF h₁
    clear h₁
    refine Goes.step rfl (fun w₁ h₁ => ?_)
    replace hF := fm hF h₁
    clear h₁
    rw [stepG_alloc rfl rfl (by k_ne) rfl Try.zeroValue33]
    simp only [goes_go]
    refine ⟨dm_law hP.tag _, ?_⟩
    walk_nrm
    have hP1 := hP.more hF.1.size
    have hsz := hF.1.size
    have hm1 := hP1.fr w₁.heap.size (Nat.le_refl _)
    have hg1 := (hP1.mz _ hm1).2
    have h6lt := lt_of_some' hF.2.2.1
    replace hF : (Below w0.heap.size w0 (w₁.alloc (.cells (VL z24) 33)) ∧ HeapOk (scL D) (w₁.alloc (.cells (VL z24) 33)) ∧ (w₁.alloc (.cells (VL z24) 33)).heap[B6]? = some (.cells (VL xs) 30) ∧ w0.heap.size ≤ B6) ∧ (w₁.alloc (.cells (VL z24) 33)).heap[w₁.heap.size]? = some (.cells (VL z24) 33) := ⟨⟨hF.1.alloc hF.1.size _, heapOk_alloc hF.2.1 (VL_ok _), (heap_alloc_ne _ _ h6lt).trans hF.2.2.1, hF.2.2.2⟩, heap_alloc_new _ _⟩
    show Goes _ _ _ _ _ _ _ (w₁.alloc (.cells (VL z24) 33))
    clear fm hP1
    revert hF hsz hm1 hg1 h6lt
    generalize w₁.alloc (.cells (VL z24) 33) = w₂
    generalize w₁.heap.size = B8
    intro hsz hm1 hg1 h6lt hF
    have fm : ∀ {w w₁ : World}, ((Below w0.heap.size w0 w ∧ HeapOk (scL D) w ∧ w.heap[B6]? = some (.cells (VL xs) 30) ∧ w0.heap.size ≤ B6) ∧ w.heap[B8]? = some (.cells (VL (z24)) 33)) → ROf 55 st w w₁ → ((Below w0.heap.size w0 w₁ ∧ HeapOk (scL D) w₁ ∧ w₁.heap[B6]? = some (.cells (VL xs) 30) ∧ w0.heap.size ≤ B6) ∧ w₁.heap[B8]? = some (.cells (VL (z24)) 33)) := fun hh rr => at_rely (F := fun w => ((Below w0.heap.size w0 w ∧ HeapOk (scL D) w ∧ w.heap[B6]? = some (.cells (VL xs) 30) ∧ w0.heap.size ≤ B6) ∧ w.heap[B8]? = some (.cells (VL (z24)) 33))) (fun w d h => ⟨⟨below_at h.1.1, heapOk_at h.1.2.1, h.1.2.2.1, h.1.2.2.2⟩, h.2⟩) hP.tag hh rr
    refine Goes.step rfl (fun w₁ h₁ => ?_)
    replace hF := fm hF h₁
    clear h₁
    clear fm
    refine goes_ex (stepG_storeR (vs := VL (z24)) rfl rfl (by k_ne) rfl rfl rfl hF.2 (pInfoL _ z24_len) (by simp only [VL_size, z24_len, z24_len]) (VL_all _) (fun w => by rw [VL_size, z24_len]; exact szP w)) fun es hes => ⟨dm_setRow hes hm1 hg1 (lt_of_some' hF.2), ?_⟩
    clear es hes
    have ht := turn_row (vs := VL (z24)) hF.2
    replace hF : ((Below w0.heap.size w0 (w₁.setRow B8 (VL (z24))) ∧ HeapOk (scL D) (w₁.setRow B8 (VL (z24))) ∧ (w₁.setRow B8 (VL (z24))).heap[B6]? = some (.cells (VL xs) 30) ∧ w0.heap.size ≤ B6) ∧ (w₁.setRow B8 (VL (z24))).heap[B8]? = some (.cells (VL (z24)) 33)) := ⟨⟨below_setRow hF.1.1 hsz, heapOk_setRow hF.1.2.1 hF.2 (VL_ok _), (ht.2.1 _ (by omega)).trans hF.1.2.2.1, hF.1.2.2.2⟩, ht.2.2⟩
    clear ht hm1 hg1
    generalize w₁.setRow _ _ = w₂ at hF ⊢
    have fm : ∀ {w w₁ : World}, ((Below w0.heap.size w0 w ∧ HeapOk (scL D) w ∧ w.heap[B6]? = some (.cells (VL xs) 30) ∧ w0.heap.size ≤ B6) ∧ w.heap[B8]? = some (.cells (VL (z24)) 33)) → ROf 55 st w w₁ → ((Below w0.heap.size w0 w₁ ∧ HeapOk (scL D) w₁ ∧ w₁.heap[B6]? = some (.cells (VL xs) 30) ∧ w0.heap.size ≤ B6) ∧ w₁.heap[B8]? = some (.cells (VL (z24)) 33)) := fun hh rr => at_rely (F := fun w => ((Below w0.heap.size w0 w ∧ HeapOk (scL D) w ∧ w.heap[B6]? = some (.cells (VL xs) 30) ∧ w0.heap.size ≤ B6) ∧ w.heap[B8]? = some (.cells (VL (z24)) 33))) (fun w d h => ⟨⟨below_at h.1.1, heapOk_at h.1.2.1, h.1.2.2.1, h.1.2.2.2⟩, h.2⟩) hP.tag hh rr
    refine goes_join (n := 20) (m := 20) dm_nil (ROf.refl _ _) ?_
    walk_nrm
    u_op fm hF
    u_c stepG_region_end fm hF
    u_c stepG_seq fm hF
    u_c stepG_seq fm hF
    u_reg fm hF
    u_op fm hF
    u_op fm hF
    u_c stepG_region_end fm hF
    u_cond true fm hF
    u_c stepG_seq fm hF
    u_reg fm hF
    u_op fm hF
    u_op fm hF
    u_c stepG_region_end fm hF
    u_c stepG_ret' fm hF
    refine Goes.step rfl (fun w₁ h₁ => ?_)
    replace hF := fm hF h₁
    clear h₁
    rw [stepG_leave2 rfl rfl Try.func6 rfl]
    simp only [goes_go]
    refine ⟨by u_nil, ?_⟩
    refine Goes.stop (fun w₁ h₁ => Goes.stop fun w₂ h₂ => ?_)
    replace hF := fm (fm hF h₁) h₂
    exact ⟨rfl, hno' _ hF.1.1 hF.1.2.1⟩
  have hl2 := permB_len hp
  have ok2' : Ok (scL D) (.slice A2 24 c2) := by rw [← hl2]; exact ok2
  refine ⟨rfl, done_call (S := scL D) (vs := #[.slice A2 ys.length c2]) (R := fun T d e w' => e = .returned (.tuple #[.agg (VL ys), .bool true]) ∧ Below (tp w₁ T d).heap.size (tp w₁ T d) w') (scopeL D) hP.tag hP.may rfl rfl (by k_ne) rfl Try.func13 nmPF rfl (frOk_region (fitsL _) rfl (tmpsOk_list (by repeat (first | exact ok_nil | (refine ok_cons (by first | exact ok_undef | exact .int _ _ | exact .bool _ | exact ok_nilslice | assumption) ?_)))) (by kernel_rfl)) hF.2.1 (by simp [Act.eval]) (fun T d => permFrom_yes A2 c2 ys (tp w₁ T d) ((ha2.below hF.1).more hF.1.size) hy hp) (fun T d e w' h => ⟨_, h.1⟩) fun v w2 T d T' d' hr hw2 hfr2 htp => ?_⟩
  obtain ⟨he, hb⟩ := hr
  cases he
  have hb' := below_tp hb htp
  replace hF : (Below w0.heap.size w0 w2 ∧ HeapOk (scL D) w2 ∧ w2.heap[B6]? = some (.cells (VL xs) 30) ∧ w0.heap.size ≤ B6) := ⟨hF.1.trans (hb'.mono hF.1.size), hw2, (hb'.block _ (lt_of_some' hF.2.2.1)).trans hF.2.2.1, hF.2.2.2⟩
  clear hb hb' htp hfr2 hw2
  have fm : ∀ {w w₁ : World}, (Below w0.heap.size w0 w ∧ HeapOk (scL D) w ∧ w.heap[B6]? = some (.cells (VL xs) 30) ∧ w0.heap.size ≤ B6) → ROf 55 st w w₁ → (Below w0.heap.size w0 w₁ ∧ HeapOk (scL D) w₁ ∧ w₁.heap[B6]? = some (.cells (VL xs) 30) ∧ w0.heap.size ≤ B6) := fun hh rr => at_rely (F := fun w => (Below w0.heap.size w0 w ∧ HeapOk (scL D) w ∧ w.heap[B6]? = some (.cells (VL xs) 30) ∧ w0.heap.size ≤ B6)) (fun w d h => ⟨below_at h.1, heapOk_at h.2.1, h.2.2.1, h.2.2.2⟩) hP.tag hh rr
  refine done_dm (n := 5 + (1 + (1 + 40))) hP.tag hP.d ?_
  refine goes_join (n := 5) (m := 42) dm_nil (ROf.refl _ _) ?_
  walk_nrm
  u_op fm hF
  u_op fm hF
  u_op fm hF
  refine Goes.stop (fun w₁ h₁ => ?_)
  replace hF := fm hF h₁
  clear h₁
  refine Goes.step rfl (fun w₁ h₁ => ?_)
  replace hF := fm hF h₁
  clear h₁
  rw [stepG_alloc rfl rfl (by k_ne) rfl Try.zeroValue33]
  simp only [goes_go]
  refine ⟨dm_law hP.tag _, ?_⟩
  walk_nrm
  have hP1 := hP.more hF.1.size
  have hsz := hF.1.size
  have hm1 := hP1.fr w₁.heap.size (Nat.le_refl _)
  have hg1 := (hP1.mz _ hm1).2
  have h6lt := lt_of_some' hF.2.2.1
  replace hF : (Below w0.heap.size w0 (w₁.alloc (.cells (VL z24) 33)) ∧ HeapOk (scL D) (w₁.alloc (.cells (VL z24) 33)) ∧ (w₁.alloc (.cells (VL z24) 33)).heap[B6]? = some (.cells (VL xs) 30) ∧ w0.heap.size ≤ B6) ∧ (w₁.alloc (.cells (VL z24) 33)).heap[w₁.heap.size]? = some (.cells (VL z24) 33) := ⟨⟨hF.1.alloc hF.1.size _, heapOk_alloc hF.2.1 (VL_ok _), (heap_alloc_ne _ _ h6lt).trans hF.2.2.1, hF.2.2.2⟩, heap_alloc_new _ _⟩
  show Goes _ _ _ _ _ _ _ (w₁.alloc (.cells (VL z24) 33))
  clear fm hP1
  revert hF hsz hm1 hg1 h6lt
  generalize w₁.alloc (.cells (VL z24) 33) = w₂
  generalize w₁.heap.size = B8
  intro hsz hm1 hg1 h6lt hF
  have fm : ∀ {w w₁ : World}, ((Below w0.heap.size w0 w ∧ HeapOk (scL D) w ∧ w.heap[B6]? = some (.cells (VL xs) 30) ∧ w0.heap.size ≤ B6) ∧ w.heap[B8]? = some (.cells (VL (z24)) 33)) → ROf 55 st w w₁ → ((Below w0.heap.size w0 w₁ ∧ HeapOk (scL D) w₁ ∧ w₁.heap[B6]? = some (.cells (VL xs) 30) ∧ w0.heap.size ≤ B6) ∧ w₁.heap[B8]? = some (.cells (VL (z24)) 33)) := fun hh rr => at_rely (F := fun w => ((Below w0.heap.size w0 w ∧ HeapOk (scL D) w ∧ w.heap[B6]? = some (.cells (VL xs) 30) ∧ w0.heap.size ≤ B6) ∧ w.heap[B8]? = some (.cells (VL (z24)) 33))) (fun w d h => ⟨⟨below_at h.1.1, heapOk_at h.1.2.1, h.1.2.2.1, h.1.2.2.2⟩, h.2⟩) hP.tag hh rr
  refine Goes.step rfl (fun w₁ h₁ => ?_)
  replace hF := fm hF h₁
  clear h₁
  clear fm
  refine goes_ex (stepG_storeR (vs := VL (ys)) rfl rfl (by k_ne) rfl rfl rfl hF.2 (pInfoL _ hl2) (by simp only [VL_size, z24_len, hl2]) (VL_all _) (fun w => by rw [VL_size, hl2]; exact szP w)) fun es hes => ⟨dm_setRow hes hm1 hg1 (lt_of_some' hF.2), ?_⟩
  clear es hes
  have ht := turn_row (vs := VL (ys)) hF.2
  replace hF : ((Below w0.heap.size w0 (w₁.setRow B8 (VL (ys))) ∧ HeapOk (scL D) (w₁.setRow B8 (VL (ys))) ∧ (w₁.setRow B8 (VL (ys))).heap[B6]? = some (.cells (VL xs) 30) ∧ w0.heap.size ≤ B6) ∧ (w₁.setRow B8 (VL (ys))).heap[B8]? = some (.cells (VL (ys)) 33)) := ⟨⟨below_setRow hF.1.1 hsz, heapOk_setRow hF.1.2.1 hF.2 (VL_ok _), (ht.2.1 _ (by omega)).trans hF.1.2.2.1, hF.1.2.2.2⟩, ht.2.2⟩
  clear ht hm1 hg1
  generalize w₁.setRow _ _ = w₂ at hF ⊢
  have fm : ∀ {w w₁ : World}, ((Below w0.heap.size w0 w ∧ HeapOk (scL D) w ∧ w.heap[B6]? = some (.cells (VL xs) 30) ∧ w0.heap.size ≤ B6) ∧ w.heap[B8]? = some (.cells (VL (ys)) 33)) → ROf 55 st w w₁ → ((Below w0.heap.size w0 w₁ ∧ HeapOk (scL D) w₁ ∧ w₁.heap[B6]? = some (.cells (VL xs) 30) ∧ w0.heap.size ≤ B6) ∧ w₁.heap[B8]? = some (.cells (VL (ys)) 33)) := fun hh rr => at_rely (F := fun w => ((Below w0.heap.size w0 w ∧ HeapOk (scL D) w ∧ w.heap[B6]? = some (.cells (VL xs) 30) ∧ w0.heap.size ≤ B6) ∧ w.heap[B8]? = some (.cells (VL (ys)) 33))) (fun w d h => ⟨⟨below_at h.1.1, heapOk_at h.1.2.1, h.1.2.2.1, h.1.2.2.2⟩, h.2⟩) hP.tag hh rr
  refine goes_join (n := 12) (m := 28) dm_nil (ROf.refl _ _) ?_
  walk_nrm
  u_op fm hF
  u_c stepG_region_end fm hF
  u_c stepG_seq fm hF
  u_c stepG_seq fm hF
  u_reg fm hF
  u_op fm hF
  u_op fm hF
  u_c stepG_region_end fm hF
  u_cond false fm hF
  u_c stepG_skip fm hF
  u_c stepG_seq fm hF
  u_reg fm hF
  refine Goes.stop (fun w₁ h₁ => ?_)
  replace hF := fm hF h₁
  clear h₁
  refine Goes.step rfl (fun w₁ h₁ => ?_)
  replace hF := fm hF h₁
  clear h₁
  have hm6 := hP.fr B6 hF.1.2.2.2
  have hg6 := (hP.mz _ hm6).2
  have hg8 := (hP.mz _ (hP.fr B8 hsz)).2
  refine goes_ex (stepG_loadR (vs := VL xs) rfl rfl (by k_ne) rfl rfl hF.1.2.2.1 Try.underlying30 rfl (vInfoL _ hl) Try.isAgg30 (fun w => by rw [VL_size, hl]; exact szV w)) fun es hes => ⟨dm_read hes hg6 (lt_of_some' hF.1.2.2.1), ?_⟩
  clear es hes
  walk_nrm
  refine Goes.step rfl (fun w₁ h₁ => ?_)
  replace hF := fm hF h₁
  clear h₁
  refine goes_ex (stepG_loadR (vs := VL ys) rfl rfl (by k_ne) rfl rfl hF.2 Try.underlying33 rfl (pInfoL _ hl2) Try.isAgg33 (fun w => by rw [VL_size, hl2]; exact szP w)) fun es hes => ⟨dm_read hes hg8 (lt_of_some' hF.2), ?_⟩
  clear es hes
  walk_nrm
  have hM := fun (w1 : World) (hP1 : PH st D w1) (hK1 : ∀ b, (fun b => K b ∨ b = B6 ∨ b = B8) b → ¬ D b ∧ IntRow w1 b) (c : Frame) (cs : List Frame) hcont => movedDone (Fin := Fin) (K := (fun b => K b ∨ b = B6 ∨ b = B8)) (c := c) (cs := cs) hP1 hgs hl hl2 (permB_rng hp) hK1 hcont
  simp only [bodyM, Try.f14, Option.getD_some] at hM
  refine Goes.step rfl (fun w₁ h₁ => ?_)
  replace hF := fm hF h₁
  clear h₁
  refine goes_call rfl rfl (by k_ne) rfl Try.func14 nmMV rfl ⟨dm_nil _, ?_⟩
  walk_nrmf Try.f14
  refine Goes.stop (fun w₁ h₁ => ?_)
  replace hF := fm hF h₁
  clear h₁
  refine ⟨rfl, hM w₁ (hP.more hF.1.1.size) (fun b hb => ?_) _ _ fun st1 w2 hP2 hH2 hgs2 hg2 hb2 => ?_⟩
  · rcases hb with hb | rfl | rfl
    · exact ⟨(hKn b hb).1, (hKn b hb).2.below hF.1.1 (hKn b hb).2.lt⟩
    · exact ⟨fun h => by have h1 : b < w0.heap.size := hw.low b h; have := hF.1.2.2.2; omega, .VL hF.1.2.2.1⟩
    · exact ⟨fun h => by have h1 : b < w0.heap.size := hw.low b h; omega, .VL hF.2⟩
  have hg3 : ∀ b, st1.grp b → b < w0.heap.size → st.grp b := fun b h1 h2 => hg2 b h1 (by have := hF.1.1.size; omega)
  clear hM hg2
  have hl3 : mvL xs ys = lmL xs ys 24 := mvL_eq hp
  have hl4 : (mvL xs ys).length = 24 := mvL_len xs ys
  revert hl3 hl4
  generalize mvL xs ys = L
  intro hl3 hl4
  rw [Frame.finish_at]
  walk_nrm
  have hB2 : Below w0.heap.size w0 w2 := hF.1.1.trans (hb2.mono hF.1.1.size)
  have hS0 : w0.heap.size ≤ w2.heap.size := Nat.le_trans hF.1.1.size hb2.size
  have hB0 : Below w0.heap.size w0 w2 := hB2
  clear hF fm hm6 hg6 hg8
  have hF : Below w0.heap.size w0 w2 ∧ HeapOk (scL (Dk (fun b => K b ∨ b = B6 ∨ b = B8) w2.heap.size)) w2 ∧ w2.heap.size ≤ w2.heap.size := ⟨hB2, hH2, Nat.le_refl _⟩
  have fm : ∀ {w w₁ : World}, (Below w0.heap.size w0 w ∧ HeapOk (scL (Dk (fun b => K b ∨ b = B6 ∨ b = B8) w2.heap.size)) w ∧ w2.heap.size ≤ w.heap.size) → ROf 55 st1 w w₁ → (Below w0.heap.size w0 w₁ ∧ HeapOk (scL (Dk (fun b => K b ∨ b = B6 ∨ b = B8) w2.heap.size)) w₁ ∧ w2.heap.size ≤ w₁.heap.size) := fun hh rr => at_rely (F := fun w => (Below w0.heap.size w0 w ∧ HeapOk (scL (Dk (fun b => K b ∨ b = B6 ∨ b = B8) w2.heap.size)) w ∧ w2.heap.size ≤ w.heap.size)) (fun w d h => ⟨below_at h.1, heapOk_at h.2.1, h.2.2⟩) hP2.tag hh rr
  refine done_dm (n := 4 + (1 + 30)) hP2.tag hP2.d ?_
  refine goes_join (n := 4) (m := 31) dm_nil (ROf.refl _ _) ?_
  u_call Try.func15 nmLI Try.f15 fm hF
  u_c stepG_seq fm hF
  u_reg fm hF
  refine Goes.stop (fun w₁ h₁ => ?_)
  replace hF := fm hF h₁
  clear h₁
  refine Goes.step rfl (fun w₁ h₁ => ?_)
  replace hF := fm hF h₁
  clear h₁
  rw [stepG_box (x := .tmp 0) rfl rfl (by k_ne) rfl]
  simp only [goes_go]
  refine ⟨dm_law hP2.tag _, ?_⟩
  walk_nrm
  show Goes _ _ _ _ _ _ _ (w₁.alloc (.cells (VL L) 30))
  have hsz := hF.2.2
  replace hF : Below w0.heap.size w0 (w₁.alloc (.cells (VL L) 30)) ∧ HeapOk (scL (Dk (fun b => K b ∨ b = B6 ∨ b = B8) w2.heap.size)) (w₁.alloc (.cells (VL L) 30)) ∧ w2.heap.size ≤ (w₁.alloc (.cells (VL L) 30)).heap.size ∧ (w₁.alloc (.cells (VL L) 30)).heap[w₁.heap.size]? = some (.cells (VL L) 30) := ⟨hF.1.alloc hF.1.size _, heapOk_alloc hF.2.1 (VL_ok _), by simp; omega, heap_alloc_new _ _⟩
  have okv : ¬ Dk (fun b => K b ∨ b = B6 ∨ b = B8) w2.heap.size w₁.heap.size := fun h => absurd h.1 (by omega)
  clear fm
  revert hF hsz okv
  generalize w₁.alloc (.cells (VL L) 30) = w₃
  generalize w₁.heap.size = B9
  intro hsz hF okv
  have hsv : ∀ (W : World) (es : Array Event), (Instr.sliceAt 30 (.pointer (some ⟨B9, 0, none⟩)) none (some (.int .i64 24)) (some (.int .i64 24))).events Try.prog W es = es := fun W es => by kernel_rfl
  have fm : ∀ {w w₁ : World}, (Below w0.heap.size w0 w ∧ HeapOk (scL (Dk (fun b => K b ∨ b = B6 ∨ b = B8) w2.heap.size)) w ∧ w2.heap.size ≤ w.heap.size ∧ w.heap[B9]? = some (.cells (VL L) 30)) → ROf 55 st1 w w₁ → (Below w0.heap.size w0 w₁ ∧ HeapOk (scL (Dk (fun b => K b ∨ b = B6 ∨ b = B8) w2.heap.size)) w₁ ∧ w2.heap.size ≤ w₁.heap.size ∧ w₁.heap[B9]? = some (.cells (VL L) 30)) := fun hh rr => at_rely (F := fun w => (Below w0.heap.size w0 w ∧ HeapOk (scL (Dk (fun b => K b ∨ b = B6 ∨ b = B8) w2.heap.size)) w ∧ w2.heap.size ≤ w.heap.size ∧ w.heap[B9]? = some (.cells (VL L) 30))) (fun w d h => ⟨below_at h.1, heapOk_at h.2.1, h.2.2.1, h.2.2.2⟩) hP2.tag hh rr
  refine goes_join (n := 30) (m := 0) dm_nil (ROf.refl _ _) ?_
  u_op fm hF
  u_c stepG_region_end fm hF
  u_c stepG_seq fm hF
  u_reg fm hF
  u_op fm hF
  u_op fm hF
  u_c stepG_region_end fm hF
  u_c stepG_ret' fm hF
  u_leave1 Try.func15 fm hF
  u_op fm hF
  u_op fm hF
  u_c stepG_region_end fm hF
  u_c stepG_ret' fm hF
  refine Goes.step rfl (fun w₁ h₁ => ?_)
  replace hF := fm hF h₁
  clear h₁
  rw [stepG_leave2 rfl rfl Try.func6 rfl]
  simp only [goes_go]
  refine ⟨by u_nil, ?_⟩
  refine Goes.stop (fun w₁ h₁ => Goes.stop fun w₂ h₂ => ?_)
  replace hF := fm (fm hF h₁) h₂
  refine ⟨rfl, hyes (by rw [hv, hp]; rfl) st1 _ _ _ (hP2.more hF.2.2.1) hF.2.1 (fun b hb h => h.2 (.inl hb)) hgs2 hg3 hF.1 (Nat.le_trans hS0 hsz) ?_ okv⟩
  rw [← hl3]
  exact hF.2.2.2
end

end Go.Proofs.Ytiodikflmijhkaa
/- A call by its contract, whatever the caller's frame holds: only what is handed over must be in order. No program is named here. -/
set_option linter.unusedSectionVars false
set_option linter.unusedVariables false
namespace Go.Proofs.Ytiodikflmijhkaa.Farm
open Go Go.Conc Go.ConcN
open Go.ConcR (KK wgBlock WgAt stA smA rd wr mk Payload Aside2 DC0 Bk g_of_ofEvents)
open Vow
variable [Payload]

section
variable {P : Program} {ty : TypeId} {st : MSt} {S : Scope} {b : Frame} {a : Act} {k : List Item} {cs : List Frame} {w : World} {ops : Array Oper} {i : Nat} {rest : List Nat} {o : Oper} {Fin : Value → World → Prop}

theorem dm0 {w : World} : DM st w w #[] := ⟨Nat.le_refl _, fun _ => rfl, fun _ _ _ => rfl, by simp⟩

/-- A callee that leaves, its results being slots. -/
theorem done_leave {fr c : Frame} {v : Value} {w1 : World} {T : Nat → Question → Nat} {d : Nat} (htag : st.tag = .law) (hres : ∀ fn, P.funcs[fr.fn]? = some fn → ∀ tmps, ∃ u, ResultsC P fn tmps u)
    (hl : fr.leaving P (tp w1 T d) (.returned v)) (hK : Done P ty Fin st (G (c.finish v) cs) w1) : Done P ty Fin st (G fr (c :: cs)) w1 := by
  obtain ⟨hm, hd, hk, fn, hf, hr⟩ := hl
  obtain ⟨u, hu⟩ := hres fn hf fr.tmps
  have e : u = v := by
    have := (hu (tp w1 T d)).1
    rw [hr] at this
    cases this
    rfl
  subst e
  refine done_step (f := fun _ => G (c.finish u) cs) (v := fun d => w1.at d) (es := fun _ => #[]) htag rfl (fun d => ?_) (fun d => dm0) fun d => ?_
  · have h1 := hu (w1.at d)
    simp [G, stepG, unwind, doReturn, hm, hd, hk, hf, h1.1, h1.2, seen_none, GStep.after]
  · exact hK

/-- ████ A CALL BY ITS CONTRACT, WHATEVER THE CALLER'S FRAME HOLDS. ████ -/
theorem done_callC {f : FuncId} {fn : Func} {c : Code} {args : Array Operand} {ats : Array TypeId} {R : (Nat → Question → Nat) → Nat → Ending → World → Prop}
    (hS : ScopeOk S P) (htag : st.tag = .law) (hmay : ∀ b, ¬ S.D b → st.may b ∧ ¬ st.grp b)
    (ho : ops[i]? = some o) (hwt : Region.wanted o (yielded ops a.tmps) = true) (hk : b.kind ≠ .early) (hop : o.op = .call { callee := .value (.func f), args, argTypes := ats })
    (hf : P.funcs[f]? = some fn) (hname : (fn.name == "runtime.NumGoroutine") = false) (hb : fn.body = some c) (hF : S.F f) (hres : ∀ tmps, ∃ u, ResultsC P fn tmps u)
    {vs : Array Value} (hargs : args.map a.eval = vs) (hvs : ∀ v ∈ vs, Ok S v) (hw : HeapOk S w)
    (hC : ∀ T d, Calls P f vs (tp w T d) (R T d)) (hR : ∀ T d e w', R T d e w' → ∃ v, e = .returned v)
    (hK : ∀ v w1 T d T' d', R T d (.returned v) (tp w1 T' d') → HeapOk S w1 → w1.tape = w.tape → Done P ty Fin st (G (b.at (a.put o.dst v) (.inRegion ops rest :: k)) cs) w1) :
    Done P ty Fin st (G (b.at a (.inRegion ops (i :: rest) :: k)) cs) w := by
  subst hargs
  have hbn : fn.body.isNone = false := by rw [hb]; rfl
  have hL : LoneC P (fun fr' w' => ∃ T d v, R T d (.returned v) w' ∧ fr'.fn = f ∧ fr'.leaving P w' (.returned v)) (Frame.enter P f (args.map a.eval) .normal) w := by
    intro T d
    obtain ⟨e, w', fr, hRe, hcome, hfn, hlv⟩ := hC T d [pc]
    obtain ⟨v, rfl⟩ := hR T d e w' hRe
    exact ⟨fr, w', hcome, T, d, v, hRe, hfn, hlv⟩
  have hT := tree_of_call hS (enter_ok hS hF hvs) hw hL
  have hcallee : Done P ty Fin st (G (Frame.enter P f (args.map a.eval) .normal) (b.at a (.inRegion ops (i :: rest) :: k) :: cs)) w := by
    have h1 := done_of_tree (ty := ty) (Fin := Fin) (k := []) (cs := b.at a (.inRegion ops (i :: rest) :: k) :: cs) htag hmay hT fun fr' w1 T' d' hq h3 h4 h5 => by
      have fin : ∀ fr'' : Frame, (∃ T d v, R T d (.returned v) (tp w1 T' d') ∧ fr''.fn = f ∧ fr''.leaving P (tp w1 T' d') (.returned v)) → Done P ty Fin st (G fr'' (b.at a (.inRegion ops (i :: rest) :: k) :: cs)) w1 := fun fr'' hq => by
        obtain ⟨T, d, v, h1, h2, hlv⟩ := hq
        refine done_leave htag (fun fn' hf' tmps => ?_) hlv ?_
        · rw [h2, hf] at hf'
          cases hf'
          exact hres tmps
        · have hfin : (b.at a (.inRegion ops (i :: rest) :: k)).finish v = b.at (a.put o.dst v) (.inRegion ops rest :: k) := by rw [Frame.finish_at, ho]; rfl
          rw [hfin]
          exact hK v w1 T d T' d' h1 h3 h5
      rw [sx_nil]
      rcases hq with hq | ⟨htd, hmd, hq⟩
      · exact fin fr' hq
      · refine done_step (f := fun _ => G { fr' with mode := .returning } (b.at a (.inRegion ops (i :: rest) :: k) :: cs)) (v := fun d => w1.at d) (es := fun _ => #[]) htag rfl (fun d => ?_) (fun d => dm0) fun d => fin _ hq
        obtain ⟨fn', tmps, todo, defers, mode, kind, round⟩ := fr'
        have e1 := h4.defers
        have e2 := h4.round
        simp only at htd hmd e1 e2
        subst htd hmd e1 e2
        rfl
    have e0 : ext [] (b.at a (.inRegion ops (i :: rest) :: k) :: cs) (Frame.enter P f (args.map a.eval) .normal) [] = G (Frame.enter P f (args.map a.eval) .normal) (b.at a (.inRegion ops (i :: rest) :: k) :: cs) := by
      show G (sx [] _) _ = _
      rw [sx_nil]
    rw [e0] at h1
    exact h1
  refine done_step (f := fun _ => G (Frame.enter P f (args.map a.eval) .normal) (b.at a (.inRegion ops (i :: rest) :: k) :: cs)) (v := fun d => w.at d) (es := fun _ => #[]) htag rfl (fun d => ?_) (fun d => dm0) fun d => hcallee
  rw [stepG_enter ho hwt hk (run_call_body hop hf hname hbn)]
  have : listed P b.fn a o (w.at d) = #[] := by unfold listed; rw [events_call_body hop hf hname hbn]; exact seen_none P _
  rw [this]
end
end Go.Proofs.Ytiodikflmijhkaa.Farm
/- toIntS by hand: whatever block it reads. -/
set_option linter.unusedSectionVars false
set_option linter.unusedVariables false
set_option linter.unusedSimpArgs false
namespace Go.Proofs.Ytiodikflmijhkaa
open Go Go.Conc Go.ConcN Go.RowKit Go.Conc.Lib Go.ConcR.Gen Go.ConcN.Gen Farm Vow
open Go.ConcR (KK wgBlock WgAt stA smA rd wr mk Payload Aside2 DC0)

noncomputable def bodyT : Code := Try.f5.body.getD .skip
noncomputable def LT : Code := match bodyT with | .seq _ (.seq _ (.seq (.seq _ (.block _ (.loop b))) _)) => b | _ => .skip
noncomputable def RT : Code := match bodyT with | .seq _ (.seq _ (.seq _ r)) => r | _ => .skip
abbrev bT : Frame := base 5

theorem cur_set (xs : List Int) (k : Nat) (h : k < xs.length) : (xs.take k ++ List.replicate (xs.length - k) 0).set k (xs.getD k 0) = (xs.take (k + 1) ++ List.replicate (xs.length - (k + 1)) 0) := by
  apply List.ext_getElem?
  intro i
  rw [List.getElem?_set]
  have hl : (xs.take k ++ List.replicate (xs.length - k) 0).length = xs.length := by simp; omega
  by_cases e : k = i
  · subst e
    rw [if_pos rfl, if_pos (by rw [hl]; exact h), List.getElem?_append_left (by simp; omega), List.getElem?_take, if_pos (by omega), List.getD_eq_getElem?_getD, List.getElem?_eq_getElem h]
    rfl
  · rw [if_neg e]
    rcases Nat.lt_or_ge i k with hi | hi
    · rw [List.getElem?_append_left (by simp; omega), List.getElem?_append_left (by simp; omega), List.getElem?_take, List.getElem?_take, if_pos hi, if_pos (by omega)]
    · rw [List.getElem?_append_right (by simp; omega), List.getElem?_append_right (by simp; omega), List.getElem?_replicate, List.getElem?_replicate]
      simp only [List.length_take]
      congr 1
      simp
      omega
theorem cur_all (xs : List Int) : (xs.take xs.length ++ List.replicate (xs.length - xs.length) 0) = xs := by simp
theorem idx_s (g k n m cp : Nat) (h : k < n) (W : World) : (Instr.indexAt 22 (.slice (some ⟨g, m, none⟩) n cp) (.int .i64 (k : Int))).run Try.prog W = .ok (.pointer (some ⟨g, m + k, none⟩)) W ∧ (Instr.indexAt 22 (.slice (some ⟨g, m, none⟩) n cp) (.int .i64 (k : Int))).events Try.prog W #[] = #[] := by
  refine ⟨?_, events_indexAt_slice _ _ _ _ _ _ Try.underlying22 ⟨by omega, by omega⟩⟩
  rw [run_indexAt_slice (h := Try.underlying22), if_pos ⟨by omega, by omega⟩, show (Try.prog).elem 22 = 3 by kernel_rfl, Try.sizeOf3]
  simp [Addr.add]
theorem made_VL (xs : List Int) : madeCells #[.int .i64 0] xs.length = VL (xs.take 0 ++ List.replicate (xs.length - 0) 0) := by
  simp only [madeCells, VL, List.take_zero, List.nil_append, Nat.sub_zero, List.map_replicate]
  apply Array.ext
  · simp
  · intro i h1 h2
    simp [Nat.mod_one]
theorem stepG_make {P : Program} {b : Frame} {a : Act} {k : List Item} {cs : List Frame} {w : World} {ops : Array Oper} {i : Nat} {rest : List Nat} {o : Oper} {t e : TypeId} {x y : Operand} {n : Nat} (ho : ops[i]? = some o) (hw : Region.wanted o (yielded ops a.tmps) = true) (hk : b.kind ≠ .early) (hop : o.op = .makeSlice t x y) (hx : a.eval x = .int .i64 (n : Int)) (hy : a.eval y = .int .i64 (n : Int))
    (ht : P.underlying t = some (.slice e)) (hinfo : (P.info? e).map (fun i => (i.zero, i.size, i.bytes)) = some (some (.int .i64 0), 1, 8)) (hn : n ≤ 1048576) {main : Bool} :
    stepG P main (G (b.at a (.inRegion ops (i :: rest) :: k)) cs) w = .go (G (b.at (a.put o.dst (.slice (some ⟨w.heap.size, 0, none⟩) n n)) (.inRegion ops rest :: k)) cs) (w.alloc (.cells (madeCells #[.int .i64 0] n) e)) #[] := by
  have he : execOp a.eval o = (do pure (.value (← Instr.makeSlice t (.int .i64 (n : Int)) (.int .i64 (n : Int)))) : Sem Next) := by unfold execOp; simp only [hop, hx, hy]
  have hr := run_make_row' (P := P) t e (.int .i64 0) 8 ht hinfo rfl .i64 .i64 n (by omega) (by omega) w
  obtain ⟨inf, hi, hzz⟩ := Option.map_eq_some_iff.1 hinfo
  simp only [Prod.mk.injEq] at hzz
  have hv := events_make (P := P) w t e inf (.int .i64 0) ht hi hzz.1 .i64 .i64 (n : Int) (n : Int) (by omega) (by omega) (by rw [hzz.2.2]; omega) (by omega) (by rw [hzz.2.2]; omega) #[]
  rw [stepG_value ho hw hk (v := .slice (some ⟨w.heap.size, 0, none⟩) n n) (w' := w.alloc (.cells (madeCells #[.int .i64 0] n) e)) (by rw [he, Sem.run_bind, hr]; rfl), Farm.listed_nil (by rw [he, Sem.events_bind, hr]; simp only [hv]; rfl)]
theorem stepG_sl {P : Program} {b : Frame} {a : Act} {k : List Item} {cs : List Frame} {w : World} {ops : Array Oper} {i : Nat} {rest : List Nat} {o : Oper} {t : TypeId} {x y : Operand} {u v r : Value} (ho : ops[i]? = some o) (hw : Region.wanted o (yielded ops a.tmps) = true) (hk : b.kind ≠ .early) (hop : o.op = .indexAddr t x y) (hx : a.eval x = u) (hy : a.eval y = v)
    (hr : (Instr.indexAt t u v).run P w = .ok r w) (hv : (Instr.indexAt t u v).events P w #[] = #[]) {main : Bool} :
    stepG P main (G (b.at a (.inRegion ops (i :: rest) :: k)) cs) w = .go (G (b.at (a.put o.dst r) (.inRegion ops rest :: k)) cs) w #[] := by
  have he : execOp a.eval o = (do pure (.value (← Instr.indexAt t u v)) : Sem Next) := by unfold execOp; simp only [hop, hx, hy]
  rw [stepG_value ho hw hk (v := r) (w' := w) (by rw [he, Sem.run_bind, hr]; rfl), Farm.listed_nil (by rw [he, Sem.events_bind, hr]; simp only [hv]; rfl)]

section
variable {st : MSt} {D : Nat → Prop} {Fin : Value → World → Prop} {w0 : World} {A : Option Addr} {cp g : Nat} {xs : List Int} {c : Frame} {cs : List Frame}

set_option maxRecDepth 100000 in
set_option maxHeartbeats 16000000 in
theorem toInt_loop (hP : PH st D w0) (hg : w0.heap.size ≤ g) {nA : Nat} (hnA : nA ≤ w0.heap.size) (ha : Rds w0 nA .i64 A xs) (hx : xs.length ≤ 1048576) (hgr : ∀ b, b < nA → ¬ st.grp b)
    (hK : ∀ w1, Below w0.heap.size w0 w1 → w1.heap.size = g + 1 → w1.heap[g]? = some (.cells (VL xs) 3) → Done Try.prog 55 Fin st (G (c.finish (.slice (some ⟨g, 0, none⟩) xs.length xs.length)) cs) w1) :
    ∀ n k w v8 v9 v10 v11 v12 v13 v14 v15 v16 v17 v18 v19 v20 v21, k + n = xs.length → (Below w0.heap.size w0 w ∧ w.heap.size = g + 1 ∧ w.heap[g]? = some (.cells (VL (xs.take k ++ List.replicate (xs.length - k) 0)) 3)) →
      Done Try.prog 55 Fin st (G (bT.at ⟨#[.slice A xs.length cp, undef, .slice none 0 0, .slice (some ⟨g, 0, none⟩) xs.length xs.length, .int .i64 (k : Int), .slice A xs.length cp, .int .i64 (xs.length : Int), .slice (some ⟨g, 0, none⟩) xs.length xs.length, v8, v9, v10, v11, v12, v13, v14, v15, v16, v17, v18, v19, v20, v21], []⟩ [.code LT, .inLoop LT, .inBlock 0, .code RT]) (c :: cs)) w := by
  intro n
  induction n with
  | zero =>
    intro k w v8 v9 v10 v11 v12 v13 v14 v15 v16 v17 v18 v19 v20 v21 hk hF
    obtain rfl : k = xs.length := by omega
    rw [cur_all] at hF
    have hlt : ((xs.length : Int) < (xs.length : Int)) = False := eq_false (by omega)
    simp only [LT, RT, bodyT, Try.f5, Option.getD_some]
    have fm : ∀ {w w₁ : World}, (Below w0.heap.size w0 w ∧ w.heap.size = g + 1 ∧ w.heap[g]? = some (.cells (VL xs) 3)) → ROf 55 st w w₁ → (Below w0.heap.size w0 w₁ ∧ w₁.heap.size = g + 1 ∧ w₁.heap[g]? = some (.cells (VL xs) 3)) := fun hh rr => at_rely (F := fun w => (Below w0.heap.size w0 w ∧ w.heap.size = g + 1 ∧ w.heap[g]? = some (.cells (VL xs) 3))) (fun w d h => ⟨below_at h.1, h.2.1, h.2.2⟩) hP.tag hh rr
    refine done_silent (n := 24) hP.tag hP.d ?_
    u_c stepG_seq fm hF
    u_c stepG_seq fm hF
    u_reg fm hF
    u_op fm hF
    u_op fm hF
    u_op fm hF
    u_op fm hF
    u_c stepG_region_end fm hF
    u_cond false fm hF
    u_exit fm hF
    u_c stepG_seq fm hF
    u_reg fm hF
    u_op fm hF
    u_op fm hF
    u_c stepG_region_end fm hF
    u_c stepG_ret' fm hF
    refine Goes.step rfl (fun w₁ h₁ => ?_)
    replace hF := fm hF h₁
    clear h₁
    rw [stepG_leave rfl rfl Try.func5 (results_tmp (t := 2) rfl _ _ _) (events_results_tmp (t := 2) rfl _ _)]
    simp only [goes_go]
    refine ⟨by u_nil, ?_⟩
    refine Goes.stop (fun w₁ h₁ => ?_)
    replace hF := fm hF h₁
    exact ⟨rfl, hK _ hF.1 hF.2.1 hF.2.2⟩
  | succ n ih =>
  intro k w v8 v9 v10 v11 v12 v13 v14 v15 v16 v17 v18 v19 v20 v21 hk hF
  have hkl : k < xs.length := by omega
  have hlt : ((k : Int) < (xs.length : Int)) = True := eq_true (by omega)
  have hwr : IntKind.i64.wrap ((k : Int) + 1) = ((k + 1 : Nat) : Int) := by rw [wrap_i64_of _ (by omega) (by omega)]; omega
  have ihk := ih (k + 1)
  clear ih
  obtain ⟨b, o, rfl, hb, hcell⟩ := ha.at_ (j := k) hkl
  have hset := cur_set xs k hkl
  have hcl : (xs.take k ++ List.replicate (xs.length - k) 0).length = xs.length := by simp; omega
  simp only [LT, RT, bodyT, Try.f5, Option.getD_some] at ihk ⊢
  revert hF hset hcl
  generalize hC : (xs.take k ++ List.replicate (xs.length - k) 0) = C
  generalize hC2 : (xs.take (k + 1) ++ List.replicate (xs.length - (k + 1)) 0) = C2 at ihk
  intro hF hset hcl
  clear hC hC2
  have fm : ∀ {w w₁ : World}, (Below w0.heap.size w0 w ∧ w.heap.size = g + 1 ∧ w.heap[g]? = some (.cells (VL C) 3)) → ROf 55 st w w₁ → (Below w0.heap.size w0 w₁ ∧ w₁.heap.size = g + 1 ∧ w₁.heap[g]? = some (.cells (VL C) 3)) := fun hh rr => at_rely (F := fun w => (Below w0.heap.size w0 w ∧ w.heap.size = g + 1 ∧ w.heap[g]? = some (.cells (VL C) 3))) (fun w d h => ⟨below_at h.1, h.2.1, h.2.2⟩) hP.tag hh rr
  refine done_dm (n := 20 + (1 + (1 + (1 + (1 + 20))))) hP.tag hP.d ?_
  refine goes_join (n := 20) (m := 24) dm_nil (ROf.refl _ _) ?_
  u_c stepG_seq fm hF
  u_c stepG_seq fm hF
  u_reg fm hF
  u_op fm hF
  u_op fm hF
  u_op fm hF
  u_op fm hF
  u_c stepG_region_end fm hF
  u_cond true fm hF
  u_c stepG_skip fm hF
  u_c stepG_seq fm hF
  u_c stepG_block fm hF
  u_reg fm hF
  u_op fm hF
  u_op fm hF
  u_op fm hF
  u_op fm hF
  refine Goes.stop (fun w₁ h₁ => ?_)
  replace hF := fm hF h₁
  clear h₁
  refine Goes.step rfl (fun w₁ h₁ => ?_)
  replace hF := fm hF h₁
  clear h₁
  rw [stepG_sl rfl rfl (by k_ne) rfl rfl rfl (idx_s b k xs.length o cp hkl _).1 (idx_s b k xs.length o cp hkl _).2]
  simp only [goes_go]
  refine ⟨dm_nil _, ?_⟩
  walk_nrm
  refine Goes.step rfl (fun w₁ h₁ => ?_)
  replace hF := fm hF h₁
  clear h₁
  have hng : ¬ st.grp b := hgr _ hb
  have hb' : b < w0.heap.size := by omega
  have hbl : b < w₁.heap.size := by have := hF.2.1; omega
  refine goes_ex (stepG_load1 (ty := 3) (ad := ⟨b, o + k, none⟩) (v := .int .i64 (xs.getD k 0)) rfl rfl (by k_ne) rfl rfl (by rw [← hcell]; unfold World.cell?; rw [hF.1.block b hb']) Try.isAgg3) fun es hes => ⟨dm_read hes hng hbl, ?_⟩
  clear es hes
  walk_nrm
  refine Goes.step rfl (fun w₁ h₁ => ?_)
  replace hF := fm hF h₁
  clear h₁
  rw [stepG_sl rfl rfl (by k_ne) rfl rfl rfl (idx_s g k xs.length 0 xs.length hkl _).1 (idx_s g k xs.length 0 xs.length hkl _).2]
  simp only [goes_go]
  refine ⟨dm_nil _, ?_⟩
  walk_nrm
  rw [Nat.zero_add]
  refine Goes.step rfl (fun w₁ h₁ => ?_)
  replace hF := fm hF h₁
  clear h₁
  clear fm
  have hm := hP.fr g hg
  refine goes_ex (stepG_store1 (v := .int .i64 (xs.getD k 0)) (ad := ⟨g, k, none⟩) rfl rfl (by k_ne) rfl rfl rfl rfl (VL_at C (by omega) hF.2.2) (_root_.Go.Lib.frozen_of_heap hF.2.2 _) Try.sizeOf3) fun es hes => ⟨dm_set hes hm (hP.mz _ hm).2 (lt_of_some' hF.2.2), ?_⟩
  clear es hes
  have ht := turn_cell (j := k) (v := .int .i64 (xs.getD k 0)) hF.2.2
  rw [VL_put, hset] at ht
  replace hF : (Below w0.heap.size w0 (w₁.setCell ⟨g, k, none⟩ (.int .i64 (xs.getD k 0))) ∧ (w₁.setCell ⟨g, k, none⟩ (.int .i64 (xs.getD k 0))).heap.size = g + 1 ∧ (w₁.setCell ⟨g, k, none⟩ (.int .i64 (xs.getD k 0))).heap[g]? = some (.cells (VL C2) 3)) := ⟨hF.1.setCell hg _, by rw [ht.1.2.2.2]; exact hF.2.1, ht.2.2⟩
  clear ht hm
  generalize w₁.setCell _ _ = w₂ at hF ⊢
  have fm : ∀ {w w₁ : World}, (Below w0.heap.size w0 w ∧ w.heap.size = g + 1 ∧ w.heap[g]? = some (.cells (VL C2) 3)) → ROf 55 st w w₁ → (Below w0.heap.size w0 w₁ ∧ w₁.heap.size = g + 1 ∧ w₁.heap[g]? = some (.cells (VL C2) 3)) := fun hh rr => at_rely (F := fun w => (Below w0.heap.size w0 w ∧ w.heap.size = g + 1 ∧ w.heap[g]? = some (.cells (VL C2) 3))) (fun w d h => ⟨below_at h.1, h.2.1, h.2.2⟩) hP.tag hh rr
  refine goes_join (n := 20) (m := 0) dm_nil (ROf.refl _ _) ?_
  walk_nrm
  u_c stepG_region_end fm hF
  u_c stepG_inBlock fm hF
  u_reg fm hF
  u_op fm hF
  u_op fm hF
  u_op fm hF
  u_c stepG_region_end fm hF
  u_c stepG_inLoop fm hF
  refine Goes.stop (fun w₁ h₁ => ?_)
  replace hF := fm hF h₁
  clear h₁
  refine Goes.stop (fun w₁ h₁ => ?_)
  replace hF := fm hF h₁
  clear h₁
  exact ⟨rfl, ihk _ _ _ _ _ _ _ _ _ _ _ _ _ _ _ (by omega) hF⟩
set_option maxRecDepth 100000 in
set_option maxHeartbeats 16000000 in
/-- ████ toIntS IN A LAW'S PHASE, whatever block it reads. ████ -/
theorem toInt_done (hP : PH st D w0) {nA : Nat} (hnA : nA ≤ w0.heap.size) (ha : Rds w0 nA .i64 A xs) (hx : xs.length ≤ 1048576) (hgr : ∀ b, b < nA → ¬ st.grp b)
    (hK : ∀ w1, Below w0.heap.size w0 w1 → w1.heap.size = w0.heap.size + 1 → w1.heap[w0.heap.size]? = some (.cells (VL xs) 3) → Done Try.prog 55 Fin st (G (c.finish (.slice (some ⟨w0.heap.size, 0, none⟩) xs.length xs.length)) cs) w1) :
    Done Try.prog 55 Fin st (G (bT.at ⟨#[.slice A xs.length cp, undef, undef, undef, undef, undef, undef, undef, undef, undef, undef, undef, undef, undef, undef, undef, undef, undef, undef, undef, undef, undef], []⟩ [.code bodyT]) (c :: cs)) w0 := by
  have hF : (Below w0.heap.size w0 w0 ∧ w0.heap.size = w0.heap.size) := ⟨Below.refl _ _, rfl⟩
  have hLp := fun (w : World) (v8 v9 v10 v11 v12 v13 v14 v15 v16 v17 v18 v19 v20 v21 : Value) hk hF => toInt_loop (cp := cp) hP (Nat.le_refl _) hnA ha hx hgr hK xs.length 0 w v8 v9 v10 v11 v12 v13 v14 v15 v16 v17 v18 v19 v20 v21 hk hF
  simp only [LT, RT, bodyT, Try.f5, Option.getD_some] at hLp ⊢
  have fm : ∀ {w w₁ : World}, (Below w0.heap.size w0 w ∧ w.heap.size = w0.heap.size) → ROf 55 st w w₁ → (Below w0.heap.size w0 w₁ ∧ w₁.heap.size = w0.heap.size) := fun hh rr => at_rely (F := fun w => (Below w0.heap.size w0 w ∧ w.heap.size = w0.heap.size)) (fun w d h => ⟨below_at h.1, h.2⟩) hP.tag hh rr
  refine done_dm (n := 10 + (1 + 20)) hP.tag hP.d ?_
  refine goes_join (n := 10) (m := 21) dm_nil (ROf.refl _ _) ?_
  u_c stepG_seq fm hF
  u_reg fm hF
  u_op fm hF
  u_c stepG_region_end fm hF
  u_c stepG_seq fm hF
  u_reg fm hF
  u_op fm hF
  u_op fm hF
  refine Goes.stop (fun w₁ h₁ => ?_)
  replace hF := fm hF h₁
  clear h₁
  refine Goes.step rfl (fun w₁ h₁ => ?_)
  replace hF := fm hF h₁
  clear h₁
  rw [stepG_make (n := xs.length) rfl rfl (by k_ne) rfl rfl rfl Try.underlying22 intInfo (by omega)]
  simp only [goes_go]
  refine ⟨dm_law hP.tag _, ?_⟩
  walk_nrm
  show Goes _ _ _ _ _ _ _ (w₁.alloc (.cells (madeCells #[.int .i64 0] xs.length) 3))
  have hn : (w₁.alloc (.cells (madeCells #[.int .i64 0] xs.length) 3)).heap[w₁.heap.size]? = some (.cells (VL (xs.take 0 ++ List.replicate (xs.length - 0) 0)) 3) := by
    rw [heap_alloc_new, made_VL]
  replace hF : Below w0.heap.size w0 (w₁.alloc (.cells (madeCells #[.int .i64 0] xs.length) 3)) ∧ (w₁.alloc (.cells (madeCells #[.int .i64 0] xs.length) 3)).heap.size = w0.heap.size + 1 ∧ (w₁.alloc (.cells (madeCells #[.int .i64 0] xs.length) 3)).heap[w0.heap.size]? = some (.cells (VL (xs.take 0 ++ List.replicate (xs.length - 0) 0)) 3) := ⟨hF.1.alloc hF.1.size _, by simp [hF.2], by rw [← hF.2]; exact hn⟩
  have hw1 : w₁.heap.size = w0.heap.size := by have := hF.2.1; simp at this; omega
  rw [hw1]
  clear hn fm hw1
  revert hF
  generalize w₁.alloc (.cells (madeCells #[.int .i64 0] xs.length) 3) = w₂
  generalize hC : (xs.take 0 ++ List.replicate (xs.length - 0) 0) = C at hLp
  intro hF
  have fm : ∀ {w w₁ : World}, (Below w0.heap.size w0 w ∧ w.heap.size = w0.heap.size + 1 ∧ w.heap[w0.heap.size]? = some (.cells (VL C) 3)) → ROf 55 st w w₁ → (Below w0.heap.size w0 w₁ ∧ w₁.heap.size = w0.heap.size + 1 ∧ w₁.heap[w0.heap.size]? = some (.cells (VL C) 3)) := fun hh rr => at_rely (F := fun w => (Below w0.heap.size w0 w ∧ w.heap.size = w0.heap.size + 1 ∧ w.heap[w0.heap.size]? = some (.cells (VL C) 3))) (fun w d h => ⟨below_at h.1, h.2.1, h.2.2⟩) hP.tag hh rr
  refine goes_join (n := 20) (m := 0) dm_nil (ROf.refl _ _) ?_
  u_op fm hF
  u_c stepG_region_end fm hF
  u_c stepG_seq fm hF
  u_c stepG_seq fm hF
  u_reg fm hF
  u_op fm hF
  u_c stepG_region_end fm hF
  u_c stepG_block fm hF
  u_c stepG_loop fm hF
  refine Goes.stop (fun w₁ h₁ => ?_)
  replace hF := fm hF h₁
  clear h₁
  refine Goes.stop (fun w₁ h₁ => ?_)
  replace hF := fm hF h₁
  clear h₁
  exact ⟨rfl, hLp _ _ _ _ _ _ _ _ _ _ _ _ _ _ _ (by omega) hF⟩
end

end Go.Proofs.Ytiodikflmijhkaa
/- The law's end. No program is named here. -/
set_option linter.unusedSectionVars false
set_option linter.unusedVariables false
namespace Go.Proofs.Ytiodikflmijhkaa.Farm
open Go Go.Conc Go.ConcN
variable [Go.ConcR.Payload]
/-- The bottom frame leaves: the run ends. -/
theorem done_ret {P : Program} {ty : TypeId} {st : MSt} {Fin : Value → World → Prop} {fr : Frame} {fn : Func} {v : Value} {w : World} (htag : st.tag = .law) (hm : fr.mode = .returning) (hd : fr.defers = []) (hk : fr.kind = .normal) (hf : P.funcs[fr.fn]? = some fn) (hi : P.inits.idxOf? fr.fn = none) (hr : ResultsC P fn fr.tmps v) (hfin : ∀ d, Fin v (w.at d)) : Done P ty Fin st (G fr []) w := by
  refine done_of_fin htag ⟨rfl, fun d => ⟨v, #[], ?_, by simp, hfin d⟩⟩
  have h1 := hr (w.at d)
  simp [G, stepG, unwind, doReturn, hm, hd, hk, hf, hi, h1.1, h1.2, seen_none, GStep.after]
end Go.Proofs.Ytiodikflmijhkaa.Farm
/- The statement Rows.FnExactLatticeMoveSaid: for every input the Go function laws.FnExactLatticeMove returns true, and each argument reads afterwards as it read before; no condition of mine. The frame is the kit's own shell. -/
namespace Go.Proofs.Ytiodikflmijhkaa.fnExactLatticeMove
open Go.ChangeShapes Go.WideShapes Go.ChangeAt Go.RowKit
open Go.Conc Go.ConcN
open Go.ChangeMaps (open_string shut_string)
set_option linter.unusedVariables false

theorem own : ownKnob Try.prog.godebug = none := by kernel_rfl
theorem laidOut : laidOutB Try.prog = true := by kernel_rfl

/-- What the run gives. -/
def Runs : Prop := ∀ (a0 : Option Addr) (len0 cap0 : Nat) (z0 : List Int) (a1 : Option Addr) (len1 cap1 : Nat) (z1 : List Int) (W : World), IsRow .i64 W a0 len0 cap0 z0 → IsRow .i64 W a1 len1 cap1 z1 →
  ∃ M last o w' t', runNT Try.prog (M + 1) (solo (G (Frame.enter Try.prog 3 #[.slice a0 len0 cap0, .slice a1 len1 cap1] .normal) []) W) #[] = (.ended o w', t') ∧ runN Try.prog M (solo (G (Frame.enter Try.prog 3 #[.slice a0 len0 cap0, .slice a1 len1 cap1] .normal) []) W) = .next last ∧
    step Try.prog last = .ended o w' ∧ Conc.Good Try.prog (fun v W' => v = .bool true ∧ Below W.heap.size W W') last o w' t'

/-! ### THE ROW's STEP: WRITTEN OUT: LEAVE IT -/
set_option maxRecDepth 100000 in
theorem lifted (run : Runs) (os : Os) (started : os.Started) (H : Type) (enc : TypeId × Value → H) :
    ReturnsInLeavingWide {} Try.checked os 3 .any (Rows.fnExactLatticeMoveSpec.pre6 enc Try.prog Try.f3 Rows.fnExactLatticeMoveRow.domain false) (Rows.fnExactLatticeMoveSpec.post enc Try.prog Try.f3 false true false false) := by
  refine returnsInLeavingWide_of_change_sized (C := Try.checked) own started Try.func3
    (ChangeSpec.witness6 (enc := enc) (C := Try.checked) false ⟨#[], #[.slice none 0 0, .slice none 0 0], []⟩ 8 (by kernel_rfl) (by kernel_rfl) (by kernel_rfl) (by kernel_rfl)) ?_
  intro W base args ds gs before hval0 hW hcnd _ _
  have hval : ∀ (j : Nat) t v, Try.f3.params[j]? = some t → args[j]? = some v → Value.okWide Try.prog W .any base t v := hval0
  have hW' := hW
  obtain ⟨p, q, hA0, hV, rfl, hfz, hnd⟩ := hW
  have hA : DataW.TrodAll enc Try.prog W 0 (fun _ => true) true Try.f3.params.toList args.toList ds p := hA0
  rw [Try.params3] at hA hval
  obtain ⟨v0, vs0, d0, ds0, p0, q0, hargs, rfl, rfl, h0, r0⟩ := trodAll_cons hA
  obtain ⟨v1, vs1, d1, ds1, p1, q1, rfl, rfl, rfl, h1, r1⟩ := trodAll_cons r0
  obtain ⟨rfl, rfl, rfl⟩ := trodAll_nil r1
  obtain rfl : args = #[v0, v1] := by cases args; simp_all
  obtain ⟨rfl, rfl⟩ := trodVars_none hV
  obtain ⟨a0, len0, cap0, rfl⟩ := okWide_slice Try.underlying22 (hval 0 22 v0 rfl rfl)
  have k0 := h0
  have lt0 : ∀ x ∈ p0, x.block < W.heap.size := by obtain ⟨m, hm⟩ := k0; exact DataW.trod_lt m _ _ _ hm
  obtain ⟨z0, w0⟩ : ∃ zs, IsRow .i64 W a0 len0 cap0 zs := by
    obtain ⟨fuel, hf⟩ := h0
    rcases open_ints Try.underlying22 Try.underlying3 (by kernel_rfl) hf with ⟨hcs, _⟩ | ⟨x, l, c, zs, hcs, _, hl, hm, hz, _, hcell, hwz⟩
    · simp [Value.cells] at hcs
      obtain ⟨rfl, rfl, rfl⟩ := hcs
      exact ⟨[], .inl ⟨rfl, rfl, rfl, rfl⟩⟩
    · simp [Value.cells] at hcs
      obtain ⟨rfl, rfl, rfl⟩ := hcs
      exact ⟨zs, .inr ⟨_, rfl, hl, hm, by simpa using hz, hcell, hwz⟩⟩
  obtain ⟨a1, len1, cap1, rfl⟩ := okWide_slice Try.underlying22 (hval 1 22 v1 rfl rfl)
  have k1 := h1
  have lt1 : ∀ x ∈ p1, x.block < W.heap.size := by obtain ⟨m, hm⟩ := k1; exact DataW.trod_lt m _ _ _ hm
  obtain ⟨z1, w1⟩ : ∃ zs, IsRow .i64 W a1 len1 cap1 zs := by
    obtain ⟨fuel, hf⟩ := h1
    rcases open_ints Try.underlying22 Try.underlying3 (by kernel_rfl) hf with ⟨hcs, _⟩ | ⟨x, l, c, zs, hcs, _, hl, hm, hz, _, hcell, hwz⟩
    · simp [Value.cells] at hcs
      obtain ⟨rfl, rfl, rfl⟩ := hcs
      exact ⟨[], .inl ⟨rfl, rfl, rfl, rfl⟩⟩
    · simp [Value.cells] at hcs
      obtain ⟨rfl, rfl, rfl⟩ := hcs
      exact ⟨zs, .inr ⟨_, rfl, hl, hm, by simpa using hz, hcell, hwz⟩⟩
  clear hA0 hval0
  obtain ⟨M, last, o, w', t', e1, e2, e3, e4⟩ := run a0 len0 cap0 z0 a1 len1 cap1 z1 W w0 w1
  refine ⟨M, last, o, w', t', e1, e2, e3, e4.mono fun v ⟨he, bel⟩ => ?_⟩
  subst he
  exact ⟨_, _, _, [], _, [], hW', trodAll_mk1 (shut_bool Try.underlying4 _), (trodAll_cons_mk (Below.trod laidOut (by kernel_rfl) (of_decide_eq_true (by kernel_rfl)) k0 bel lt0) (trodAll_cons_mk (Below.trod laidOut (by kernel_rfl) (of_decide_eq_true (by kernel_rfl)) k1 bel lt1) trodAll_mk0)), rfl, bel.frame _, fun h => by cases h⟩

theorem over (run : Runs) : Rows.fnExactLatticeMoveRow.holds Try.pinned (OpenSpec.ofChange Rows.fnExactLatticeMoveSpec) :=
  OpenClaim.holds_of_wide_leaving 3 Try.f3 rfl rfl rfl rfl rfl rfl rfl ⟨rfl, rfl, rfl, rfl, rfl⟩ rfl rfl rfl rfl rfl (by kernel_rfl) Try.func3 (by kernel_rfl)
    (of_decide_eq_true (by kernel_rfl)) (by unfold Func.isWrapper; first | (rw [if_pos (by decide +kernel)]; kernel_rfl) | (rw [if_neg (by decide +kernel)]; exact ⟨rfl, rfl⟩))
    (fun os started H enc _ => lifted run os started H enc)

end Go.Proofs.Ytiodikflmijhkaa.fnExactLatticeMove
/- Where the law begins. -/
set_option linter.unusedSectionVars false
set_option linter.unusedVariables false
namespace Go.Proofs.Ytiodikflmijhkaa
open Go Go.Conc Go.ConcN Go.RowKit Farm Vow

/-- The starter's state at the law's entry: all that lies there is left alone. -/
def stZ (n : Nat) : MSt := ⟨.law, 0, 0, 0, 1, fun _ => False, fun b => n ≤ b, fun _ => False, fun _ => False, fun _ => []⟩
theorem phZ (W : World) : PH (stZ W.heap.size) (Dk (fun _ => False) W.heap.size) W :=
  ⟨rfl, rfl, fun b hb => ⟨Nat.le_of_not_lt fun h => hb ⟨h, id⟩, id⟩, fun b _ => ⟨id, id⟩, fun b hb => hb, fun b h => h.elim⟩
theorem heapZ (W : World) : HeapOk (scL (Dk (fun _ => False) W.heap.size)) W := heapOk_dk fun b h => h.elim

theorem runs_of_done (h : ∀ (a0 : Option Addr) (len0 cap0 : Nat) (z0 : List Int) (a1 : Option Addr) (len1 cap1 : Nat) (z1 : List Int) (W : World), IsRow .i64 W a0 len0 cap0 z0 → IsRow .i64 W a1 len1 cap1 z1 →
    Done Try.prog 55 (fun v W' => v = .bool true ∧ Below W.heap.size W W') (stZ W.heap.size) (G (Frame.enter Try.prog 3 #[.slice a0 len0 cap0, .slice a1 len1 cap1] .normal) []) W) : fnExactLatticeMove.Runs := by
  intro a0 len0 cap0 z0 a1 len1 cap1 z1 W w0 w1
  exact farm_run (h a0 len0 cap0 z0 a1 len1 cap1 z1 W w0 w1) rfl rfl rfl fun b h => h
end Go.Proofs.Ytiodikflmijhkaa
/- The law's own walk. -/
set_option linter.unusedSectionVars false
set_option linter.unusedVariables false
set_option linter.unusedSimpArgs false
namespace Go.Proofs.Ytiodikflmijhkaa
open Go Go.Conc Go.ConcN Go.RowKit Go.Conc.Lib Go.ConcR.Gen Go.ConcN.Gen Farm Vow
open Go.ConcR (KK wgBlock WgAt stA smA rd wr mk Payload Aside2 DC0)
attribute [local irreducible] cN syn

theorem heapOk_grow {S : Scope} {w0 w1 : World} {xs : List Int} {t : TypeId} (h : HeapOk S w0) (hb : Below w0.heap.size w0 w1) (hs : w1.heap.size = w0.heap.size + 1) (hn : w1.heap[w0.heap.size]? = some (.cells (VL xs) t)) : HeapOk S w1 :=
  ⟨fun b hb' => by have := h.low b hb'; omega, fun b o ho hD => by
    by_cases e : b = w0.heap.size
    · subst e
      rw [hn] at ho
      cases ho
      exact VL_ok xs
    · have hlt : b < w0.heap.size := by have := (Array.getElem?_eq_some_iff.1 ho).1; omega
      rw [hb.block b hlt] at ho
      exact h.obj b o ho hD⟩

noncomputable def bodyW : Code := Try.f3.body.getD .skip
abbrev b3 : Frame := base 3
abbrev FinL (W : World) : Value → World → Prop := fun v W' => v = .bool true ∧ Below W.heap.size W W'

section
variable {st : MSt} {D : Nat → Prop} {W : World} {A A2 : Option Addr} {c1 c2 : Nat} {xs ys : List Int}

set_option maxRecDepth 100000 in
set_option maxHeartbeats 16000000 in
/-- A list that is too long: true at once. -/
theorem law_big (hP : PH st D W) (hw : HeapOk (scL D) W) (hbig : 1048576 < xs.length ∨ 1048576 < ys.length) (hx : xs.length ≤ maxLen) (hy : ys.length ≤ maxLen) :
    Done Try.prog 55 (FinL W) st (G (b3.at ⟨#[.slice A xs.length c1, .slice A2 ys.length c2, undef, undef, undef, undef, undef, undef, undef, undef, undef, undef, undef, undef, undef, undef, undef, undef, undef, undef, undef, undef, undef, undef, undef, undef, undef, undef, undef, undef, undef, undef, undef, undef, undef, undef, undef, undef, undef, undef, undef, undef, undef, undef, undef, undef, undef, undef, undef, undef, undef, undef, undef, undef, undef, undef, undef, undef, undef, undef, undef, undef, undef, undef, undef, undef, undef, undef, undef, undef, undef, undef, undef, undef, undef, undef, undef, undef, undef, undef, undef, undef, undef, undef, undef, undef, undef, undef, undef, undef, undef, undef, undef, undef, undef, undef, undef, undef, undef, undef, undef, undef, undef, undef, undef, undef, undef, undef, undef, undef, undef, undef, undef, undef], []⟩ [.code bodyW]) []) W := by
  have hF : (Below W.heap.size W W ∧ HeapOk (scL D) W) := ⟨Below.refl _ _, hw⟩
  unfold maxLen at hx hy
  have fm : ∀ {w w₁ : World}, (Below W.heap.size W w ∧ HeapOk (scL D) w) → ROf 55 st w w₁ → (Below W.heap.size W w₁ ∧ HeapOk (scL D) w₁) := fun hh rr => at_rely (F := fun w => (Below W.heap.size W w ∧ HeapOk (scL D) w)) (fun w d h => ⟨below_at h.1, heapOk_at h.2⟩) hP.tag hh rr
  simp only [bodyW, Try.f3, Option.getD_some]
  by_cases h1 : 1048576 < xs.length
  · have h1' : ((1048576 : Int) < (xs.length : Int)) = True := eq_true (by omega)
    refine done_silent (n := 40) hP.tag hP.d ?_
    u_c stepG_seq fm hF
    u_reg fm hF
    u_op fm hF
    u_c stepG_region_end fm hF
    u_c stepG_seq fm hF
    u_c stepG_seq fm hF
    u_reg fm hF
    u_op fm hF
    u_op fm hF
    u_op fm hF
    u_c stepG_region_end fm hF
    u_cond true fm hF
    u_c stepG_seq fm hF
    u_reg fm hF
    u_op fm hF
    u_c stepG_region_end fm hF
    u_c stepG_ret' fm hF
    refine Goes.stop (fun w₁ h₁ => ?_)
    replace hF := fm hF h₁
    clear h₁
    exact ⟨rfl, done_ret hP.tag rfl rfl rfl Try.func3 (by kernel_rfl) (resultsC_tmp (t := 4) rfl _) fun d => ⟨rfl, below_at hF.1⟩⟩
  · have h1' : ((1048576 : Int) < (xs.length : Int)) = False := eq_false (by omega)
    have h2' : ((1048576 : Int) < (ys.length : Int)) = True := eq_true (by omega)
    refine done_silent (n := 60) hP.tag hP.d ?_
    u_c stepG_seq fm hF
    u_reg fm hF
    u_op fm hF
    u_c stepG_region_end fm hF
    u_c stepG_seq fm hF
    u_c stepG_seq fm hF
    u_reg fm hF
    u_op fm hF
    u_op fm hF
    u_op fm hF
    u_c stepG_region_end fm hF
    u_cond false fm hF
    u_c stepG_skip fm hF
    u_c stepG_seq fm hF
    u_c stepG_seq fm hF
    u_reg fm hF
    u_op fm hF
    u_op fm hF
    u_op fm hF
    u_c stepG_region_end fm hF
    u_cond true fm hF
    u_c stepG_seq fm hF
    u_reg fm hF
    u_op fm hF
    u_c stepG_region_end fm hF
    u_c stepG_ret' fm hF
    refine Goes.stop (fun w₁ h₁ => ?_)
    replace hF := fm hF h₁
    clear h₁
    exact ⟨rfl, done_ret hP.tag rfl rfl rfl Try.func3 (by kernel_rfl) (resultsC_tmp (t := 4) rfl _) fun d => ⟨rfl, below_at hF.1⟩⟩
end

end Go.Proofs.Ytiodikflmijhkaa
/- The law's lists, each in a block of its own; its calls. -/
set_option linter.unusedSectionVars false
set_option linter.unusedVariables false
set_option linter.unusedSimpArgs false
namespace Go.Proofs.Ytiodikflmijhkaa
open Go Go.Conc Go.ConcN Go.RowKit Farm Vow
open Go.ConcR (KK wgBlock WgAt stA smA rd wr mk Payload Aside2 DC0)
attribute [local irreducible] cN syn

/-- Where the law stands. -/
structure LB (st : MSt) (D : Nat → Prop) (W w : World) : Prop where
  hP : PH st D w
  hw : HeapOk (scL D) w
  hb : Below W.heap.size W w
section
variable {st : MSt} {D : Nat → Prop} {W w w2 : World}
theorem LB.at (h : LB st D W w) (d : Nat) : LB st D W (w.at d) := ⟨h.hP.more (Nat.le_refl _), heapOk_at h.hw, below_at h.hb⟩
theorem LB.next (h : LB st D W w) (hw2 : HeapOk (scL D) w2) (hb2 : Below w.heap.size w w2) : LB st D W w2 := ⟨h.hP.more hb2.size, hw2, h.hb.trans (hb2.mono h.hb.size)⟩
theorem LB.grown (h : LB st D W w) (hw2 : HeapOk (scL D) w2) {row : Option Nat} (hg : w.grownBy w2 row) (hr : ∀ g, row = some g → W.heap.size ≤ g) : LB st D W w2 := ⟨h.hP.more hg.size, hw2, h.hb.grown hg h.hb.size hr⟩
theorem LB.nD (h : LB st D W w) {g : Nat} (hg : w.heap.size ≤ g) : ¬ D g := fun hd => by have h1 : g < w.heap.size := h.hw.low g hd; omega
end

/-- A list in a block of its own between n and m, or none. -/
def Ls (t : TypeId) (D : Nat → Prop) (n m : Nat) (w : World) (v : Value) (L : List Int) : Prop :=
  (v = .slice none 0 0 ∧ L = []) ∨ ∃ g, v = .slice (some ⟨g, 0, none⟩) L.length L.length ∧ n ≤ g ∧ g < m ∧ ¬ D g ∧ w.heap[g]? = some (.cells (VL L) t)
section
variable {t : TypeId} {D D1 : Nat → Prop} {n m n' m' : Nat} {w w2 : World} {v : Value} {L : List Int}
theorem Ls.form (h : Ls t D n m w v L) : ∃ A, v = .slice A L.length L.length ∧ Rds w w.heap.size .i64 A L ∧ ∀ x, A = some x → ¬ D x.block := by
  rcases h with ⟨rfl, rfl⟩ | ⟨g, rfl, h1, h2, h3, h4⟩
  · exact ⟨none, rfl, .inl rfl, fun x hx => by cases hx⟩
  · refine ⟨_, rfl, .inr ⟨g, 0, rfl, lt_of_some' h4, fun j hj => by rw [Nat.zero_add]; exact VL_at L hj h4⟩, fun x hx => by cases hx; exact h3⟩
theorem Ls.ok (h : Ls t D n m w v L) : Ok (scL D) v := by
  obtain ⟨A, rfl, _, h3⟩ := h.form
  exact .slice _ _ _ h3
theorem Ls.keep (h : Ls t D n m w v L) (hk : ∀ g, n ≤ g → g < m → g < w.heap.size → w2.heap[g]? = w.heap[g]?) : Ls t D n m w2 v L := by
  rcases h with h | ⟨g, h0, h1, h2, h3, h4⟩
  · exact .inl h
  · exact .inr ⟨g, h0, h1, h2, h3, (hk g h1 h2 (lt_of_some' h4)).trans h4⟩
theorem Ls.below (h : Ls t D n m w v L) (hb : Below w.heap.size w w2) : Ls t D n m w2 v L := h.keep fun g _ _ hl => hb.block g hl
theorem Ls.same (h : Ls t D n m w v L) (e : w2.heap = w.heap) : Ls t D n m w2 v L := h.keep fun g _ _ _ => by rw [e]
theorem Ls.far (h : Ls t D n m w v L) {row : Option Nat} (hg : w.grownBy w2 row) (hne : ∀ g, row = some g → g < n ∨ m ≤ g) : Ls t D n m w2 v L :=
  h.keep fun g h1 h2 hl => hg.block g hl fun e => by have := hne g e.symm; omega
theorem Ls.reD (h : Ls t D n m w v L) (hD : ∀ g, v.ownBlock = some g → ¬ D1 g) : Ls t D1 n m w v L := by
  rcases h with h | ⟨g, rfl, h1, h2, h3, h4⟩
  · exact .inl h
  · exact .inr ⟨g, rfl, h1, h2, hD g rfl, h4⟩
theorem Ls.wide (h : Ls t D n m w v L) (hn : n' ≤ n) (hm : m ≤ m') : Ls t D n' m' w v L := by
  rcases h with h | ⟨g, h0, h1, h2, h3, h4⟩
  · exact .inl h
  · exact .inr ⟨g, h0, by omega, by omega, h3, h4⟩
theorem Ls.own (h : Ls t D n m w v L) (g : Nat) (hg : v.ownBlock = some g) : ¬ D g ∧ IntRow w g ∧ n ≤ g ∧ g < m := by
  rcases h with ⟨rfl, rfl⟩ | ⟨g', rfl, h1, h2, h3, h4⟩
  · cases hg
  · cases hg
    exact ⟨h3, IntRow.VL h4, h1, h2⟩
theorem Ls.new {g : Nat} (h1 : n ≤ g) (h2 : ¬ D g) (h3 : w.heap[g]? = some (.cells (VL L) t)) : Ls t D n w.heap.size w (.slice (some ⟨g, 0, none⟩) L.length L.length) L :=
  .inr ⟨g, rfl, h1, lt_of_some' h3, h2, h3⟩
/-- The block is what the list is. -/
theorem row_of_own {g B : Nat} (h : w.ownsRow B t 1 (.slice (some ⟨g, 0, none⟩) L.length L.length) L.length (vals .i64 L)) : w.heap[g]? = some (.cells (VL L) t) := by
  rcases h.2 with ⟨h1, _⟩ | ⟨g', cap, cur, h1, h2, h3, h4, h5, h6, h7⟩
  · cases h1
  · simp only [Value.slice.injEq, Option.some.injEq, Addr.mk.injEq, and_true, true_and] at h1
    obtain ⟨rfl, rfl⟩ := h1
    rw [h3]
    have hl : cur.toList.length ≤ L.length * 1 := by rw [Array.length_toList, h6]; omega
    rw [List.take_of_length_le hl] at h7
    have : cur = VL L := by
      apply Array.toList_inj.1
      rw [h7]
      rfl
    rw [this]
theorem own_of_row {g B : Nat} (hl : L.length ≤ maxLen) (hB : B ≤ g) (h : w.heap[g]? = some (.cells (VL L) t)) : w.ownsRow B t 1 (.slice (some ⟨g, 0, none⟩) L.length L.length) L.length (vals .i64 L) :=
  ⟨by simp [vals_len], .inr ⟨g, L.length, _, rfl, hB, h, Nat.le_refl _, hl, by simp [VL], by
    simp only [VL, vals, Nat.mul_one]
    rw [List.take_of_length_le (by simp)]⟩⟩
end

theorem bodyT_eq : Try.f5.body = some bodyT := by
  unfold bodyT Try.f5
  rfl
theorem nmSM : (Try.f4.name == "runtime.NumGoroutine") = false := by kernel_rfl
theorem nmTI : (Try.f5.name == "runtime.NumGoroutine") = false := by kernel_rfl
theorem nmEq : (Try.f7.name == "runtime.NumGoroutine") = false := by kernel_rfl
theorem nmMk : (Try.f8.name == "runtime.NumGoroutine") = false := by kernel_rfl
theorem nmHd : (Try.f9.name == "runtime.NumGoroutine") = false := by kernel_rfl
theorem nmIM : (Try.f6.name == "runtime.NumGoroutine") = false := by kernel_rfl
theorem resC2 {P : Program} {fn : Func} {t u : Tmp} (h : fn.results = #[.tmp t, .tmp u]) (tmps : Array Value) : ∃ v, ResultsC P fn tmps v := ⟨_, resultsC_tmp2 h tmps⟩
theorem resC1 {P : Program} {fn : Func} {t : Tmp} (h : fn.results = #[.tmp t]) (tmps : Array Value) : ∃ v, ResultsC P fn tmps v := ⟨_, resultsC_tmp h tmps⟩
theorem two_ok {S : Scope} {u v : Value} (h1 : Ok S u) (h2 : Ok S v) : ∀ x ∈ (#[u, v] : Array Value), Ok S x := fun x hx => by
  simp only [List.mem_toArray, List.mem_cons, List.not_mem_nil, or_false] at hx
  rcases hx with rfl | rfl
  · exact h1
  · exact h2
/-- Only the draws have changed. -/
theorem tp_same {w w1 : World} {T T' : Nat → Question → Nat} {d d' k : Nat} (h : tp w1 T' d' = (tp w T d).drewN k) (ht : w1.tape = w.tape) : w1.heap = w.heap ∧ Below w.heap.size w w1 := by
  have e1 : w1.heap = w.heap := show (tp w1 T' d').heap = ((tp w T d).drewN k).heap by rw [h]
  have e2 : w1.os = w.os := show (tp w1 T' d').os = ((tp w T d).drewN k).os by rw [h]
  have e3 : w1.output = w.output := show (tp w1 T' d').output = ((tp w T d).drewN k).output by rw [h]
  exact ⟨e1, e2, ht, e3, by rw [e1]; exact Nat.le_refl _, fun k _ => by rw [e1]⟩

section
variable {st : MSt} {D : Nat → Prop} {W w : World} {Fin : Value → World → Prop} {b : Frame} {a : Act} {k : List Item} {cs : List Frame} {ops : Array Oper} {i : Nat} {rest : List Nat} {o : Oper} {args : Array Operand} {ats : Array TypeId}
/-- eqIntS of two lists that are the same. -/
theorem eq_step {t1 t2 : TypeId} {n1 m1 n2 m2 : Nat} {v1 v2 : Value} {L : List Int} (h : LB st D W w) (h1 : Ls t1 D n1 m1 w v1 L) (h2 : Ls t2 D n2 m2 w v2 L) (hl : L.length ≤ maxLen)
    (ho : ops[i]? = some o) (hwt : Region.wanted o (yielded ops a.tmps) = true) (hk : b.kind ≠ .early) (hop : o.op = .call { callee := .value (.func 7), args, argTypes := ats }) (hargs : args.map a.eval = #[v1, v2])
    (hK : ∀ w2, LB st D W w2 → w2.heap = w.heap → Done Try.prog 55 Fin st (G (b.at (a.put o.dst (.bool true)) (.inRegion ops rest :: k)) cs) w2) :
    Done Try.prog 55 Fin st (G (b.at a (.inRegion ops (i :: rest) :: k)) cs) w := by
  have ok := two_ok h1.ok h2.ok
  obtain ⟨A, rfl, r1, _⟩ := h1.form
  obtain ⟨B, rfl, r2, _⟩ := h2.form
  refine done_callC (S := scL D) (R := fun T d e w' => e = .returned (.bool (eqL L L)) ∧ ∃ k, w' = (tp w T d).drewN k) (scopeL D) h.hP.tag h.hP.may ho hwt hk hop Try.func7 nmEq rfl (show fL 7 = true by kernel_rfl) (resC1 rfl) hargs ok h.hw (fun T d => eqIntS_calls A B _ _ L L (tp w T d) r1 r2 hl hl) (fun T d e w' h => ⟨_, h.1⟩) fun v w3 T d T' d' hr hw3 htp => ?_
  obtain ⟨he, q, hq⟩ := hr
  rw [eqL_refl] at he
  cases he
  obtain ⟨e1, hb⟩ := tp_same hq htp
  exact hK w3 (h.next hw3 hb) e1
/-- heldIntS of a marked list. -/
theorem held_step {t1 : TypeId} {n1 m1 N : Nat} {v1 : Value} (h : LB st D W w) (h1 : Ls t1 D n1 m1 w v1 (marks 1 N)) (hl : N ≤ 1048576)
    (ho : ops[i]? = some o) (hwt : Region.wanted o (yielded ops a.tmps) = true) (hk : b.kind ≠ .early) (hop : o.op = .call { callee := .value (.func 9), args, argTypes := ats }) (hargs : args.map a.eval = #[v1, .int .i64 1])
    (hK : ∀ w2, LB st D W w2 → w2.heap = w.heap → Done Try.prog 55 Fin st (G (b.at (a.put o.dst (.int .i64 (1 + N))) (.inRegion ops rest :: k)) cs) w2) :
    Done Try.prog 55 Fin st (G (b.at a (.inRegion ops (i :: rest) :: k)) cs) w := by
  have ok := two_ok h1.ok (.int .i64 1)
  obtain ⟨A, rfl, r1, _⟩ := h1.form
  rw [marks_len] at hargs ok
  refine done_callC (S := scL D) (R := fun T d e w' => e = .returned (.int .i64 (1 + N)) ∧ tp w T d = w') (scopeL D) h.hP.tag h.hP.may ho hwt hk hop Try.func9 nmHd rfl (show fL 9 = true by kernel_rfl) (resC1 rfl) hargs ok h.hw (fun T d => heldIntS_calls A _ N 1 (tp w T d) r1 hl (by omega) (by omega)) (fun T d e w' h => ⟨_, h.1⟩) fun v w3 T d T' d' hr hw3 htp => ?_
  obtain ⟨he, hq⟩ := hr
  cases he
  obtain ⟨e1, hb⟩ := tp_same (T := T) (d := d) (k := 0) hq.symm htp
  exact hK w3 (h.next hw3 hb) e1
/-- markIntS of a list. -/
theorem mark_step {n1 m1 : Nat} {v1 : Value} {L : List Int} {K : Int} (h : LB st D W w) (h1 : Ls 3 D n1 m1 w v1 L) (hn : W.heap.size ≤ n1) (hl : L.length ≤ 1048576) (hK0 : 0 ≤ K) (hK1 : K ≤ 1073741824)
    (ho : ops[i]? = some o) (hwt : Region.wanted o (yielded ops a.tmps) = true) (hk : b.kind ≠ .early) (hop : o.op = .call { callee := .value (.func 8), args, argTypes := ats }) (hargs : args.map a.eval = #[v1, .int .i64 K])
    (hK : ∀ w2, LB st D W w2 → w.grownBy w2 v1.ownBlock → Ls 3 D n1 m1 w2 v1 (marks K L.length) → Done Try.prog 55 Fin st (G (b.at (a.put o.dst (.int .i64 (K + L.length))) (.inRegion ops rest :: k)) cs) w2) :
    Done Try.prog 55 Fin st (G (b.at a (.inRegion ops (i :: rest) :: k)) cs) w := by
  have ok := two_ok h1.ok (.int .i64 K)
  have hO : ∃ A, v1 = .slice A L.length L.length ∧ Own w n1 (.slice A L.length L.length) L := by
    rcases h1 with ⟨rfl, rfl⟩ | ⟨g, rfl, h2, h3, h4, h5⟩
    · exact ⟨none, rfl, Own.nil_ _ _⟩
    · exact ⟨_, rfl, own_of_row (by unfold maxLen; omega) h2 h5⟩
  obtain ⟨A, rfl, hO⟩ := hO
  refine done_callC (S := scL D) (R := fun T d e w' => e = .returned (.int .i64 (K + L.length)) ∧ Own w' n1 (.slice A L.length L.length) (marks K L.length) ∧ (tp w T d).grownBy w' (Value.slice A L.length L.length).ownBlock) (scopeL D) h.hP.tag h.hP.may ho hwt hk hop Try.func8 nmMk rfl (show fL 8 = true by kernel_rfl) (resC1 rfl) hargs ok h.hw (fun T d => markIntS_calls A _ L K n1 (tp w T d) hO hl hK0 hK1) (fun T d e w' h => ⟨_, h.1⟩) fun v w3 T d T' d' hr hw3 htp => ?_
  obtain ⟨he, hO3, hg0⟩ := hr
  cases he
  have hg : w.grownBy w3 (Value.slice A L.length L.length).ownBlock := ⟨hg0.os, htp, hg0.output, hg0.size, hg0.block⟩
  replace hO3 : Own w3 n1 (.slice A L.length L.length) (marks K L.length) := hO3
  refine hK w3 (h.grown hw3 hg fun g hgg => ?_) hg ?_
  · have := h1.own g hgg
    omega
  · rcases h1 with ⟨e, rfl⟩ | ⟨g, e, h2, h3, h4, h5⟩
    · exact .inl ⟨e, rfl⟩
    · simp only [Value.slice.injEq, and_true] at e
      subst e
      refine .inr ⟨g, by rw [marks_len], h2, h3, h4, row_of_own (B := n1) ?_⟩
      have := hO3
      unfold Own at this
      rw [marks_len] at this ⊢
      exact this
/-- markIntS of a list. -/
theorem markV_step {n1 m1 : Nat} {v1 : Value} {L : List Int} {K : Int} (h : LB st D W w) (h1 : Ls 30 D n1 m1 w v1 L) (hn : W.heap.size ≤ n1) (hl : L.length ≤ 1048576) (hK0 : 0 ≤ K) (hK1 : K ≤ 1073741824)
    (ho : ops[i]? = some o) (hwt : Region.wanted o (yielded ops a.tmps) = true) (hk : b.kind ≠ .early) (hop : o.op = .call { callee := .value (.func 8), args, argTypes := ats }) (hargs : args.map a.eval = #[v1, .int .i64 K])
    (hK : ∀ w2, LB st D W w2 → w.grownBy w2 v1.ownBlock → Ls 30 D n1 m1 w2 v1 (marks K L.length) → Done Try.prog 55 Fin st (G (b.at (a.put o.dst (.int .i64 (K + L.length))) (.inRegion ops rest :: k)) cs) w2) :
    Done Try.prog 55 Fin st (G (b.at a (.inRegion ops (i :: rest) :: k)) cs) w := by
  have ok := two_ok h1.ok (.int .i64 K)
  have hO : ∃ A, v1 = .slice A L.length L.length ∧ OwnV w n1 (.slice A L.length L.length) L := by
    rcases h1 with ⟨rfl, rfl⟩ | ⟨g, rfl, h2, h3, h4, h5⟩
    · exact ⟨none, rfl, OwnV.nil_ _ _⟩
    · exact ⟨_, rfl, own_of_row (by unfold maxLen; omega) h2 h5⟩
  obtain ⟨A, rfl, hO⟩ := hO
  refine done_callC (S := scL D) (R := fun T d e w' => e = .returned (.int .i64 (K + L.length)) ∧ OwnV w' n1 (.slice A L.length L.length) (marks K L.length) ∧ (tp w T d).grownBy w' (Value.slice A L.length L.length).ownBlock) (scopeL D) h.hP.tag h.hP.may ho hwt hk hop Try.func8 nmMk rfl (show fL 8 = true by kernel_rfl) (resC1 rfl) hargs ok h.hw (fun T d => markV_calls A _ L K n1 (tp w T d) hO hl hK0 hK1) (fun T d e w' h => ⟨_, h.1⟩) fun v w3 T d T' d' hr hw3 htp => ?_
  obtain ⟨he, hO3, hg0⟩ := hr
  cases he
  have hg : w.grownBy w3 (Value.slice A L.length L.length).ownBlock := ⟨hg0.os, htp, hg0.output, hg0.size, hg0.block⟩
  replace hO3 : OwnV w3 n1 (.slice A L.length L.length) (marks K L.length) := hO3
  refine hK w3 (h.grown hw3 hg fun g hgg => ?_) hg ?_
  · have := h1.own g hgg
    omega
  · rcases h1 with ⟨e, rfl⟩ | ⟨g, e, h2, h3, h4, h5⟩
    · exact .inl ⟨e, rfl⟩
    · simp only [Value.slice.injEq, and_true] at e
      subst e
      refine .inr ⟨g, by rw [marks_len], h2, h3, h4, row_of_own (B := n1) ?_⟩
      have := hO3
      unfold OwnV at this
      rw [marks_len] at this ⊢
      exact this
/-- The model's LatticeMove. -/
theorem model_step {n1 m1 n2 m2 : Nat} {v1 v2 : Value} {xs ys L : List Int} {bb : Bool} (hLM : lvMove xs ys = (L, bb)) (h : LB st D W w) (h1 : Ls 3 D n1 m1 w v1 xs) (h2 : Ls 3 D n2 m2 w v2 ys) (hx : xs.length ≤ maxLen) (hy : ys.length ≤ maxLen)
    (ho : ops[i]? = some o) (hwt : Region.wanted o (yielded ops a.tmps) = true) (hk : b.kind ≠ .early) (hop : o.op = .call { callee := .value (.func 4), args, argTypes := ats }) (hargs : args.map a.eval = #[v1, v2])
    (hK : ∀ w2 v, LB st D W w2 → Below w.heap.size w w2 → Ls 3 D w.heap.size w2.heap.size w2 v L → Done Try.prog 55 Fin st (G (b.at (a.put o.dst (.tuple #[v, .bool bb])) (.inRegion ops rest :: k)) cs) w2) :
    Done Try.prog 55 Fin st (G (b.at a (.inRegion ops (i :: rest) :: k)) cs) w := by
  obtain ⟨rfl, rfl⟩ : L = (lvMove xs ys).1 ∧ bb = (lvMove xs ys).2 := by rw [hLM]; exact ⟨rfl, rfl⟩
  have ok := two_ok h1.ok h2.ok
  obtain ⟨A, rfl, r1, _⟩ := h1.form
  obtain ⟨B, rfl, r2, _⟩ := h2.form
  refine done_callC (S := scL D) (R := fun T d e w' => GotX (tp w T d) (lvMove xs ys).1 (lvMove xs ys).2 e w') (scopeL D) h.hP.tag h.hP.may ho hwt hk hop Try.func4 nmSM rfl (show fL 4 = true by kernel_rfl) (resC2 rfl) hargs ok h.hw (fun T d => sLatticeMove_calls A B _ _ xs ys (tp w T d) r1 hx r2 hy) (fun T d e w' h => let ⟨v, h1, _⟩ := h; ⟨_, h1⟩) fun v w3 T d T' d' hr hw3 htp => ?_
  obtain ⟨g, he, hg, hc, hb0⟩ := hr
  cases he
  have hb : Below w.heap.size w w3 := below_tp hb0 htp
  exact hK w3 _ (h.next hw3 hb) hb (Ls.new hg (h.nD hg) hc)
/-- toIntS of an argument. -/
theorem toInt_step {A : Option Addr} {cp : Nat} {xs : List Int} (h : LB st D W w) (ha : Rds W W.heap.size .i64 A xs) (hx : xs.length ≤ 1048576) (hgr : ∀ b, b < W.heap.size → ¬ st.grp b)
    (ho : ops[i]? = some o) (hwt : Region.wanted o (yielded ops a.tmps) = true) (hk : b.kind ≠ .early) (hop : o.op = .call { callee := .value (.func 5), args, argTypes := ats }) (hargs : args.map a.eval = #[.slice A xs.length cp])
    (hK : ∀ w2 v, LB st D W w2 → Below w.heap.size w w2 → Ls 3 D w.heap.size w2.heap.size w2 v xs → Done Try.prog 55 Fin st (G (b.at (a.put o.dst v) (.inRegion ops rest :: k)) cs) w2) :
    Done Try.prog 55 Fin st (G (b.at a (.inRegion ops (i :: rest) :: k)) cs) w := by
  have hT := @toInt_done st D Fin w A cp xs (b.at a (.inRegion ops (i :: rest) :: k)) cs h.hP W.heap.size h.hb.size (ha.below h.hb) hx hgr fun w2 hb hs hc => by
    have hfin : ∀ u, (b.at a (.inRegion ops (i :: rest) :: k)).finish u = b.at (a.put o.dst u) (.inRegion ops rest :: k) := fun u => by rw [Frame.finish_at, ho]; rfl
    rw [hfin]
    exact hK w2 _ (h.next (heapOk_grow h.hw hb hs hc) hb) hb (Ls.new (Nat.le_refl _) (h.nD (Nat.le_refl _)) hc)
  have hE : G (Frame.enter Try.prog 5 (args.map a.eval) .normal) (b.at a (.inRegion ops (i :: rest) :: k) :: cs) = G (bT.at ⟨#[.slice A xs.length cp, undef, undef, undef, undef, undef, undef, undef, undef, undef, undef, undef, undef, undef, undef, undef, undef, undef, undef, undef, undef, undef], []⟩ [.code bodyT]) (b.at a (.inRegion ops (i :: rest) :: k) :: cs) := by
    rw [hargs, enter_at _ Try.func5 bodyT_eq]
    simp only [Try.ntmps5]
    walk_nrm
  refine done_step (f := fun _ => G (Frame.enter Try.prog 5 (args.map a.eval) .normal) (b.at a (.inRegion ops (i :: rest) :: k) :: cs)) (v := fun d => w.at d) (es := fun _ => #[]) h.hP.tag rfl (fun d => ?_) (fun d => dm0) fun d => ?_
  · rw [stepG_enter ho hwt hk (run_call_body hop Try.func5 nmTI rfl)]
    have : listed Try.prog b.fn a o (w.at d) = #[] := by unfold listed; rw [events_call_body hop Try.func5 nmTI rfl]; exact seen_none _ _
    rw [this]
  · show Done _ _ _ _ (G _ _) w
    rw [hE]
    exact hT
end

end Go.Proofs.Ytiodikflmijhkaa
/- The program's LatticeMove as a step of the law. -/
set_option linter.unusedSectionVars false
set_option linter.unusedVariables false
set_option linter.unusedSimpArgs false
namespace Go.Proofs.Ytiodikflmijhkaa
open Go Go.Conc Go.ConcN Go.RowKit Farm Vow
open Go.ConcR (KK wgBlock WgAt stA smA rd wr mk Payload Aside2 DC0)
attribute [local irreducible] cN syn lmL vecB permB bodyL

theorem bodyL_eq : Try.f6.body = some bodyL := by
  unfold bodyL Try.f6
  rfl
section
variable {st : MSt} {D : Nat → Prop} {W w : World} {Fin : Value → World → Prop} {b : Frame} {a : Act} {k : List Item} {cs : List Frame} {ops : Array Oper} {i : Nat} {rest : List Nat} {o : Oper} {args : Array Operand} {ats : Array TypeId}
theorem impl_step {n1 m1 n2 m2 : Nat} {v1 v2 : Value} {xs ys L : List Int} {bb : Bool} (hLM : lvMove xs ys = (L, bb)) (h : LB st D W w) (h1 : Ls 3 D n1 m1 w v1 xs) (h2 : Ls 3 D n2 m2 w v2 ys) (hx : xs.length ≤ maxLen) (hy : ys.length ≤ maxLen)
    {K : Nat → Prop} (hKn : ∀ b, K b → ¬ D b ∧ IntRow w b) (k1 : ∀ g, v1.ownBlock = some g → K g) (k2 : ∀ g, v2.ownBlock = some g → K g) (hgs : st.gs + 4 < 1000) (hgr : ∀ b, b < W.heap.size → ¬ st.grp b)
    (ho : ops[i]? = some o) (hwt : Region.wanted o (yielded ops a.tmps) = true) (hk : b.kind ≠ .early) (hop : o.op = .call { callee := .value (.func 6), args, argTypes := ats }) (hargs : args.map a.eval = #[v1, v2])
    (hK : ∀ st1 D1 w2 v, LB st1 D1 W w2 → Below w.heap.size w w2 → (∀ b, K b → ¬ D1 b) → st1.gs ≤ st.gs + 4 → (∀ b, b < W.heap.size → ¬ st1.grp b) → Ls 30 D1 w.heap.size w2.heap.size w2 v L →
      Done Try.prog 55 Fin st1 (G (b.at (a.put o.dst (.tuple #[v, .bool bb])) (.inRegion ops rest :: k)) cs) w2) :
    Done Try.prog 55 Fin st (G (b.at a (.inRegion ops (i :: rest) :: k)) cs) w := by
  obtain ⟨rfl, rfl⟩ : L = (lvMove xs ys).1 ∧ bb = (lvMove xs ys).2 := by rw [hLM]; exact ⟨rfl, rfl⟩
  obtain ⟨A, rfl, r1, _⟩ := h1.form
  obtain ⟨B, rfl, r2, _⟩ := h2.form
  have hfin : ∀ u, (b.at a (.inRegion ops (i :: rest) :: k)).finish u = b.at (a.put o.dst u) (.inRegion ops rest :: k) := fun u => by rw [Frame.finish_at, ho]; rfl
  have hT := @latticeMove_done st D Fin w A B xs.length ys.length xs ys (b.at a (.inRegion ops (i :: rest) :: k)) cs h.hP h.hw r1 hx r2 hy K hKn (fun x hx => k1 _ (by rw [hx]; rfl)) (fun x hx => k2 _ (by rw [hx]; rfl)) hgs
    (fun hno w1 hb hw1 => by
      rw [hfin]
      have e : lvMove xs ys = ([], false) := by simp only [lvMove, hno, Bool.false_eq_true, if_false]
      rw [e] at hK
      exact hK st D w1 _ (h.next hw1 hb) hb (fun b hb => (hKn b hb).1) (by omega) hgr (.inl ⟨rfl, rfl⟩))
    (fun hyes st1 D1 w1 g hP1 hw1 hk1 hg1 hgr1 hb hg hc hD => by
      rw [hfin]
      have e : lvMove xs ys = (lmL xs ys 24, true) := by simp only [lvMove, hyes, if_true]
      rw [e] at hK
      have hl := Ls.new (D := D1) hg hD hc
      rw [lmL_len] at hl
      have hs := h.hb.size
      exact hK st1 D1 w1 _ ⟨hP1, hw1, h.hb.trans (hb.mono h.hb.size)⟩ hb hk1 (by omega) (fun b hb h => hgr b hb (hgr1 b h (by omega))) hl)
  have hE : G (Frame.enter Try.prog 6 (args.map a.eval) .normal) (b.at a (.inRegion ops (i :: rest) :: k) :: cs) = G (b6.at ⟨#[.slice A xs.length xs.length, .slice B ys.length ys.length, undef, undef, undef, undef, undef, undef, undef, undef, undef, undef, undef, undef, undef, undef, undef, undef, undef, undef, undef, undef, undef, undef, undef, undef, undef], []⟩ [.code bodyL]) (b.at a (.inRegion ops (i :: rest) :: k) :: cs) := by
    rw [hargs, enter_at _ Try.func6 bodyL_eq]
    simp only [Try.ntmps6]
    walk_nrm
  refine done_step (f := fun _ => G (Frame.enter Try.prog 6 (args.map a.eval) .normal) (b.at a (.inRegion ops (i :: rest) :: k) :: cs)) (v := fun d => w.at d) (es := fun _ => #[]) h.hP.tag rfl (fun d => ?_) (fun d => dm0) fun d => ?_
  · rw [stepG_enter ho hwt hk (run_call_body hop Try.func6 nmIM rfl)]
    have : listed Try.prog b.fn a o (w.at d) = #[] := by unfold listed; rw [events_call_body hop Try.func6 nmIM rfl]; exact seen_none _ _
    rw [this]
  · show Done _ _ _ _ (G _ _) w
    rw [hE]
    exact hT
end

end Go.Proofs.Ytiodikflmijhkaa
/- The law, stretch by stretch. -/
set_option linter.unusedSectionVars false
set_option linter.unusedVariables false
set_option linter.unusedSimpArgs false
namespace Go.Proofs.Ytiodikflmijhkaa
open Go Go.Conc Go.ConcN Go.RowKit Go.Conc.Lib Go.ConcR.Gen Go.ConcN.Gen Farm Vow
open Go.ConcR (KK wgBlock WgAt stA smA rd wr mk Payload Aside2 DC0)
attribute [local irreducible] cN syn lvMove

noncomputable def tl : Code → Code | .seq _ r => r | _ => .skip
noncomputable def tls : Nat → Code → Code | 0, c => c | n + 1, c => tl (tls n c)
noncomputable def RW (n : Nat) : Code := tls n bodyW

section
variable {st : MSt} {D : Nat → Prop} {W w : World} {A A2 : Option Addr} {c1 c2 : Nat} {xs ys L : List Int} {bb : Bool} {sv xv yv gv hv : Value}
set_option maxRecDepth 100000 in
set_option maxHeartbeats 16000000 in
theorem law_S10 {u2 u3 u7 u8 u10 u11 u13 u16 u17 u18 u19 u20 u21 u22 u23 u24 u25 u26 u27 u28 u29 u30 u31 u32 u33 u34 u35 u36 u37 u38 u39 u40 u41 u42 u43 u44 u45 u46 u47 u48 u49 u50 u51 u52 u53 u54 u55 u56 u57 u58 u59 u60 u61 u62 u63 u64 u65 u66 u67 u68 u69 u70 u71 u72 u73 u74 u75 u76 u77 u78 u79 u80 u81 u82 u83 u84 u85 u86 u87 u88 u89 u90 u91 u92 u93 u94 u95 u96 u97 u98 u99 u100 u101 u102 u103 u104 u105 u106 u107 u108 u109 u110 u111 u112 u113 : Value} {s0 s1 h0 h1 g0 g1 : Nat} (h : LB st D W w) (ls : Ls 3 D s0 s1 w sv L) (lh : Ls 30 D h0 h1 w hv L) (lg : Ls 30 D g0 g1 w gv (marks 1 L.length))(hL : L.length ≤ 1048576) :
    Done Try.prog 55 (FinL W) st (G (b3.at ⟨#[.slice A xs.length c1, .slice A2 ys.length c2, u2, u3, .bool false, sv, .bool bb, u7, u8, gv, u10, u11, .int .i64 (1 + (L.length : Int)), u13, hv, .bool bb, u16, u17, u18, u19, u20, u21, u22, u23, u24, u25, u26, u27, u28, u29, u30, u31, u32, u33, u34, u35, u36, u37, u38, u39, u40, u41, u42, u43, u44, u45, u46, u47, u48, u49, u50, u51, u52, u53, u54, u55, u56, u57, u58, u59, u60, u61, u62, u63, u64, u65, u66, u67, u68, u69, u70, u71, u72, u73, u74, u75, u76, u77, u78, u79, u80, u81, u82, u83, u84, u85, u86, u87, u88, u89, u90, u91, u92, u93, u94, u95, u96, u97, u98, u99, u100, u101, u102, u103, u104, u105, u106, u107, u108, u109, u110, u111, u112, u113], []⟩ [.code (RW 21)]) []) w := by
  have htag := h.hP.tag
  have hd := h.hP.d
  have hF : (LB st D W w ∧ Ls 3 D s0 s1 w sv L ∧ Ls 30 D h0 h1 w hv L ∧ Ls 30 D g0 g1 w gv (marks 1 L.length)) := ⟨h, ls, lh, lg⟩
  clear h ls lh lg
  simp only [RW, tls, tl, bodyW, Try.f3, Option.getD_some]
  have hlm : L.length ≤ maxLen := by unfold maxLen; omega
  have hlss : ((1 + (L.length : Int)) < 0) = False := eq_false (by omega)
  have hev : ∀ w : World, (binOp BinOp.neq 4 (.bool bb) (.bool bb)).events Try.prog w #[] = #[] := fun w => by cases bb <;> kernel_rfl
  have fm : ∀ {w w₁ : World}, (LB st D W w ∧ Ls 3 D s0 s1 w sv L ∧ Ls 30 D h0 h1 w hv L ∧ Ls 30 D g0 g1 w gv (marks 1 L.length)) → ROf 55 st w w₁ → (LB st D W w₁ ∧ Ls 3 D s0 s1 w₁ sv L ∧ Ls 30 D h0 h1 w₁ hv L ∧ Ls 30 D g0 g1 w₁ gv (marks 1 L.length)) := fun hh rr => at_rely (F := fun w => (LB st D W w ∧ Ls 3 D s0 s1 w sv L ∧ Ls 30 D h0 h1 w hv L ∧ Ls 30 D g0 g1 w gv (marks 1 L.length))) (fun w d h => ⟨h.1.at d, h.2⟩) htag hh rr
  refine done_silent (n := 60) htag hd ?_
  u_c stepG_seq fm hF
  u_c stepG_seq fm hF
  u_reg fm hF
  u_op fm hF
  u_op fm hF
  refine Goes.stop (fun w₁ h₁ => ?_)
  replace hF := fm hF h₁
  clear h₁
  refine ⟨rfl, eq_step hF.1 hF.2.2.1 hF.2.1 hlm rfl rfl (by k_ne) rfl (by walk_nrm) fun w2 hB e => ?_⟩
  have hF2 : (LB st D W w2 ∧ Ls 3 D s0 s1 w2 sv L ∧ Ls 30 D h0 h1 w2 hv L ∧ Ls 30 D g0 g1 w2 gv (marks 1 L.length)) := ⟨hB, hF.2.1.same e, hF.2.2.1.same e, hF.2.2.2.same e⟩
  clear fm hF
  have hF := hF2
  clear hF2
  clear hB e
  walk_nrm
  have fm : ∀ {w w₁ : World}, (LB st D W w ∧ Ls 3 D s0 s1 w sv L ∧ Ls 30 D h0 h1 w hv L ∧ Ls 30 D g0 g1 w gv (marks 1 L.length)) → ROf 55 st w w₁ → (LB st D W w₁ ∧ Ls 3 D s0 s1 w₁ sv L ∧ Ls 30 D h0 h1 w₁ hv L ∧ Ls 30 D g0 g1 w₁ gv (marks 1 L.length)) := fun hh rr => at_rely (F := fun w => (LB st D W w ∧ Ls 3 D s0 s1 w sv L ∧ Ls 30 D h0 h1 w hv L ∧ Ls 30 D g0 g1 w gv (marks 1 L.length))) (fun w d h => ⟨h.1.at d, h.2⟩) htag hh rr
  refine done_silent (n := 60) htag hd ?_
  u_op fm hF
  u_op fm hF
  u_op fm hF
  u_op fm hF
  u_op fm hF
  u_op fm hF
  u_c stepG_region_end fm hF
  u_cond false fm hF
  u_c stepG_skip fm hF
  u_c stepG_seq fm hF
  u_reg fm hF
  u_op fm hF
  u_c stepG_region_end fm hF
  u_c stepG_seq fm hF
  u_reg fm hF
  u_op fm hF
  u_op fm hF
  refine Goes.stop (fun w₁ h₁ => ?_)
  replace hF := fm hF h₁
  clear h₁
  refine ⟨rfl, held_step hF.1 hF.2.2.2 hL rfl rfl (by k_ne) rfl (by walk_nrm) fun w2 hB e => ?_⟩
  have hF2 : (LB st D W w2 ∧ Ls 3 D s0 s1 w2 sv L ∧ Ls 30 D h0 h1 w2 hv L ∧ Ls 30 D g0 g1 w2 gv (marks 1 L.length)) := ⟨hB, hF.2.1.same e, hF.2.2.1.same e, hF.2.2.2.same e⟩
  clear fm hF
  have hF := hF2
  clear hF2
  clear hB e
  walk_nrm
  have fm : ∀ {w w₁ : World}, (LB st D W w ∧ Ls 3 D s0 s1 w sv L ∧ Ls 30 D h0 h1 w hv L ∧ Ls 30 D g0 g1 w gv (marks 1 L.length)) → ROf 55 st w w₁ → (LB st D W w₁ ∧ Ls 3 D s0 s1 w₁ sv L ∧ Ls 30 D h0 h1 w₁ hv L ∧ Ls 30 D g0 g1 w₁ gv (marks 1 L.length)) := fun hh rr => at_rely (F := fun w => (LB st D W w ∧ Ls 3 D s0 s1 w sv L ∧ Ls 30 D h0 h1 w hv L ∧ Ls 30 D g0 g1 w gv (marks 1 L.length))) (fun w d h => ⟨h.1.at d, h.2⟩) htag hh rr
  refine done_silent (n := 60) htag hd ?_
  u_op fm hF
  u_c stepG_region_end fm hF
  u_c stepG_seq fm hF
  u_c stepG_seq fm hF
  u_reg fm hF
  u_op fm hF
  u_op fm hF
  u_c stepG_region_end fm hF
  u_cond false fm hF
  u_c stepG_skip fm hF
  u_c stepG_seq fm hF
  u_c stepG_seq fm hF
  u_reg fm hF
  u_op fm hF
  u_op fm hF
  u_op fm hF
  u_c stepG_region_end fm hF
  u_cond false fm hF
  u_c stepG_skip fm hF
  u_c stepG_seq fm hF
  u_reg fm hF
  u_op fm hF
  u_c stepG_region_end fm hF
  u_c stepG_ret' fm hF
  refine Goes.stop (fun w₁ h₁ => ?_)
  replace hF := fm hF h₁
  clear h₁
  exact ⟨rfl, done_ret htag rfl rfl rfl Try.func3 (by kernel_rfl) (resultsC_tmp (t := 4) rfl _) fun d => ⟨rfl, below_at hF.1.hb⟩⟩
end

end Go.Proofs.Ytiodikflmijhkaa
/- The law, stretch by stretch. -/
set_option linter.unusedSectionVars false
set_option linter.unusedVariables false
set_option linter.unusedSimpArgs false
namespace Go.Proofs.Ytiodikflmijhkaa
open Go Go.Conc Go.ConcN Go.RowKit Go.Conc.Lib Go.ConcR.Gen Go.ConcN.Gen Farm Vow
open Go.ConcR (KK wgBlock WgAt stA smA rd wr mk Payload Aside2 DC0)
attribute [local irreducible] cN syn lvMove

section
variable {st : MSt} {D : Nat → Prop} {W w : World} {A A2 : Option Addr} {c1 c2 : Nat} {xs ys L : List Int} {bb : Bool} {sv xv yv gv hv : Value}
set_option maxRecDepth 100000 in
set_option maxHeartbeats 16000000 in
theorem law_S9 {u2 u3 u7 u8 u10 u11 u13 u14 u15 u16 u17 u18 u19 u20 u21 u22 u23 u24 u25 u26 u27 u28 u29 u30 u31 u32 u33 u34 u35 u36 u37 u38 u39 u40 u41 u42 u43 u44 u45 u46 u47 u48 u49 u50 u51 u52 u53 u54 u55 u56 u57 u58 u59 u60 u61 u62 u63 u64 u65 u66 u67 u68 u69 u70 u71 u72 u73 u74 u75 u76 u77 u78 u79 u80 u81 u82 u83 u84 u85 u86 u87 u88 u89 u90 u91 u92 u93 u94 u95 u96 u97 u98 u99 u100 u101 u102 u103 u104 u105 u106 u107 u108 u109 u110 u111 u112 u113 : Value} {s0 s1 g0 g1 : Nat} (h : LB st D W w) (ls : Ls 3 D s0 s1 w sv L) (lg : Ls 30 D g0 g1 w gv (marks 1 L.length))(hL : L.length ≤ 1048576) (hLM : lvMove xs ys = (L, bb)) (ha : Rds W W.heap.size .i64 A xs) (ha2 : Rds W W.heap.size .i64 A2 ys) (hx : xs.length ≤ 1048576) (hy : ys.length ≤ 1048576) (hgr : ∀ b, b < W.heap.size → ¬ st.grp b) (hgs : st.gs + 4 < 1000) :
    Done Try.prog 55 (FinL W) st (G (b3.at ⟨#[.slice A xs.length c1, .slice A2 ys.length c2, u2, u3, .bool false, sv, .bool bb, u7, u8, gv, u10, u11, .int .i64 (1 + (L.length : Int)), u13, u14, u15, u16, u17, u18, u19, u20, u21, u22, u23, u24, u25, u26, u27, u28, u29, u30, u31, u32, u33, u34, u35, u36, u37, u38, u39, u40, u41, u42, u43, u44, u45, u46, u47, u48, u49, u50, u51, u52, u53, u54, u55, u56, u57, u58, u59, u60, u61, u62, u63, u64, u65, u66, u67, u68, u69, u70, u71, u72, u73, u74, u75, u76, u77, u78, u79, u80, u81, u82, u83, u84, u85, u86, u87, u88, u89, u90, u91, u92, u93, u94, u95, u96, u97, u98, u99, u100, u101, u102, u103, u104, u105, u106, u107, u108, u109, u110, u111, u112, u113], []⟩ [.code (RW 20)]) []) w := by
  have htag := h.hP.tag
  have hd := h.hP.d
  have hF : (LB st D W w ∧ Ls 3 D s0 s1 w sv L ∧ Ls 30 D g0 g1 w gv (marks 1 L.length)) := ⟨h, ls, lg⟩
  clear h ls lg
  have hN := @law_S10
  simp only [RW, tls, tl, bodyW, Try.f3, Option.getD_some] at hN ⊢
  have hxm : xs.length ≤ maxLen := by unfold maxLen; omega
  have hym : ys.length ≤ maxLen := by unfold maxLen; omega
  have hlm : L.length ≤ maxLen := by unfold maxLen; omega
  have fm : ∀ {w w₁ : World}, (LB st D W w ∧ Ls 3 D s0 s1 w sv L ∧ Ls 30 D g0 g1 w gv (marks 1 L.length)) → ROf 55 st w w₁ → (LB st D W w₁ ∧ Ls 3 D s0 s1 w₁ sv L ∧ Ls 30 D g0 g1 w₁ gv (marks 1 L.length)) := fun hh rr => at_rely (F := fun w => (LB st D W w ∧ Ls 3 D s0 s1 w sv L ∧ Ls 30 D g0 g1 w gv (marks 1 L.length))) (fun w d h => ⟨h.1.at d, h.2⟩) htag hh rr
  refine done_silent (n := 60) htag hd ?_
  u_c stepG_seq fm hF
  u_reg fm hF
  u_op fm hF
  refine Goes.stop (fun w₁ h₁ => ?_)
  replace hF := fm hF h₁
  clear h₁
  refine ⟨rfl, toInt_step hF.1 ha hx hgr rfl rfl (by k_ne) rfl (by walk_nrm <;> rfl) fun w2 pv hB hb hl => ?_⟩
  obtain ⟨p0, p1, lp⟩ : ∃ n m, Ls 3 D n m w2 pv xs := ⟨_, _, hl⟩
  have hF2 : (LB st D W w2 ∧ Ls 3 D s0 s1 w2 sv L ∧ Ls 30 D g0 g1 w2 gv (marks 1 L.length) ∧ Ls 3 D p0 p1 w2 pv xs) := ⟨hB, hF.2.1.below hb, hF.2.2.below hb, lp⟩
  clear fm hF hl hb lp
  have hF := hF2
  clear hF2 hB
  walk_nrm
  have fm : ∀ {w w₁ : World}, (LB st D W w ∧ Ls 3 D s0 s1 w sv L ∧ Ls 30 D g0 g1 w gv (marks 1 L.length) ∧ Ls 3 D p0 p1 w pv xs) → ROf 55 st w w₁ → (LB st D W w₁ ∧ Ls 3 D s0 s1 w₁ sv L ∧ Ls 30 D g0 g1 w₁ gv (marks 1 L.length) ∧ Ls 3 D p0 p1 w₁ pv xs) := fun hh rr => at_rely (F := fun w => (LB st D W w ∧ Ls 3 D s0 s1 w sv L ∧ Ls 30 D g0 g1 w gv (marks 1 L.length) ∧ Ls 3 D p0 p1 w pv xs)) (fun w d h => ⟨h.1.at d, h.2⟩) htag hh rr
  refine done_silent (n := 60) htag hd ?_
  u_op fm hF
  refine Goes.stop (fun w₁ h₁ => ?_)
  replace hF := fm hF h₁
  clear h₁
  refine ⟨rfl, toInt_step hF.1 ha2 hy hgr rfl rfl (by k_ne) rfl (by walk_nrm <;> rfl) fun w2 qv hB hb hl => ?_⟩
  obtain ⟨q0, q1, lq⟩ : ∃ n m, Ls 3 D n m w2 qv ys := ⟨_, _, hl⟩
  have hF2 : (LB st D W w2 ∧ Ls 3 D s0 s1 w2 sv L ∧ Ls 30 D g0 g1 w2 gv (marks 1 L.length) ∧ Ls 3 D p0 p1 w2 pv xs ∧ Ls 3 D q0 q1 w2 qv ys) := ⟨hB, hF.2.1.below hb, hF.2.2.1.below hb, hF.2.2.2.below hb, lq⟩
  clear fm hF hl hb lq
  have hF := hF2
  clear hF2 hB
  walk_nrm
  have fm : ∀ {w w₁ : World}, (LB st D W w ∧ Ls 3 D s0 s1 w sv L ∧ Ls 30 D g0 g1 w gv (marks 1 L.length) ∧ Ls 3 D p0 p1 w pv xs ∧ Ls 3 D q0 q1 w qv ys) → ROf 55 st w w₁ → (LB st D W w₁ ∧ Ls 3 D s0 s1 w₁ sv L ∧ Ls 30 D g0 g1 w₁ gv (marks 1 L.length) ∧ Ls 3 D p0 p1 w₁ pv xs ∧ Ls 3 D q0 q1 w₁ qv ys) := fun hh rr => at_rely (F := fun w => (LB st D W w ∧ Ls 3 D s0 s1 w sv L ∧ Ls 30 D g0 g1 w gv (marks 1 L.length) ∧ Ls 3 D p0 p1 w pv xs ∧ Ls 3 D q0 q1 w qv ys)) (fun w d h => ⟨h.1.at d, h.2⟩) htag hh rr
  refine done_silent (n := 60) htag hd ?_

  refine Goes.stop (fun w₁ h₁ => ?_)
  replace hF := fm hF h₁
  clear h₁
  have hKn : ∀ q, (fun q => sv.ownBlock = some q ∨ gv.ownBlock = some q ∨ pv.ownBlock = some q ∨ qv.ownBlock = some q) q → ¬ D q ∧ IntRow w₁ q := by
    rintro q (hq | hq | hq | hq)
    · exact ⟨(hF.2.1.own q hq).1, (hF.2.1.own q hq).2.1⟩
    · exact ⟨(hF.2.2.1.own q hq).1, (hF.2.2.1.own q hq).2.1⟩
    · exact ⟨(hF.2.2.2.1.own q hq).1, (hF.2.2.2.1.own q hq).2.1⟩
    · exact ⟨(hF.2.2.2.2.own q hq).1, (hF.2.2.2.2.own q hq).2.1⟩
  refine ⟨rfl, impl_step hLM hF.1 hF.2.2.2.1 hF.2.2.2.2 hxm hym (K := (fun q => sv.ownBlock = some q ∨ gv.ownBlock = some q ∨ pv.ownBlock = some q ∨ qv.ownBlock = some q)) hKn (fun g hg => (.inr (.inr (.inl hg)))) (fun g hg => (.inr (.inr (.inr hg)))) hgs hgr rfl rfl (by k_ne) rfl (by walk_nrm <;> rfl) fun st1 D1 w2 hv hB hb hk hgs1 hgr1 hl => ?_⟩
  obtain ⟨h0, h1, lh⟩ : ∃ n m, Ls 30 D1 n m w2 hv L := ⟨_, _, hl⟩
  have hF2 : (LB st1 D1 W w2 ∧ Ls 3 D1 s0 s1 w2 sv L ∧ Ls 30 D1 g0 g1 w2 gv (marks 1 L.length) ∧ Ls 30 D1 h0 h1 w2 hv L) := ⟨hB, (hF.2.1.below hb).reD (fun g hg => hk g (.inl hg)), (hF.2.2.1.below hb).reD (fun g hg => hk g (.inr (.inl hg))), lh⟩
  have htag1 := hB.hP.tag
  have hd1 := hB.hP.d
  clear fm hF hl hb lh hKn hk htag hd
  have hF := hF2
  clear hF2 hB
  walk_nrm
  have fm : ∀ {w w₁ : World}, (LB st1 D1 W w ∧ Ls 3 D1 s0 s1 w sv L ∧ Ls 30 D1 g0 g1 w gv (marks 1 L.length) ∧ Ls 30 D1 h0 h1 w hv L) → ROf 55 st1 w w₁ → (LB st1 D1 W w₁ ∧ Ls 3 D1 s0 s1 w₁ sv L ∧ Ls 30 D1 g0 g1 w₁ gv (marks 1 L.length) ∧ Ls 30 D1 h0 h1 w₁ hv L) := fun hh rr => at_rely (F := fun w => (LB st1 D1 W w ∧ Ls 3 D1 s0 s1 w sv L ∧ Ls 30 D1 g0 g1 w gv (marks 1 L.length) ∧ Ls 30 D1 h0 h1 w hv L)) (fun w d h => ⟨h.1.at d, h.2⟩) htag1 hh rr
  refine done_silent (n := 60) htag1 hd1 ?_
  u_op fm hF
  u_op fm hF
  u_op fm hF
  u_op fm hF
  u_op fm hF
  u_c stepG_region_end fm hF
  refine Goes.stop (fun w₁ h₁ => ?_)
  replace hF := fm hF h₁
  clear h₁
  exact ⟨rfl, hN hF.1 hF.2.1 hF.2.2.2 hF.2.2.1 hL⟩
end

end Go.Proofs.Ytiodikflmijhkaa
/- The law, stretch by stretch. -/
set_option linter.unusedSectionVars false
set_option linter.unusedVariables false
set_option linter.unusedSimpArgs false
namespace Go.Proofs.Ytiodikflmijhkaa
open Go Go.Conc Go.ConcN Go.RowKit Go.Conc.Lib Go.ConcR.Gen Go.ConcN.Gen Farm Vow
open Go.ConcR (KK wgBlock WgAt stA smA rd wr mk Payload Aside2 DC0)
attribute [local irreducible] cN syn lvMove

section
variable {st : MSt} {D : Nat → Prop} {W w : World} {A A2 : Option Addr} {c1 c2 : Nat} {xs ys L : List Int} {bb : Bool} {sv xv yv gv hv : Value}
set_option maxRecDepth 100000 in
set_option maxHeartbeats 16000000 in
theorem law_S8 {u2 u3 u7 u8 u10 u11 u13 u14 u15 u16 u17 u18 u19 u20 u21 u22 u23 u24 u25 u26 u27 u28 u29 u30 u31 u32 u33 u34 u35 u36 u37 u38 u39 u40 u41 u42 u43 u44 u45 u46 u47 u48 u49 u50 u51 u52 u53 u54 u55 u56 u57 u58 u59 u60 u61 u62 u63 u64 u65 u66 u67 u68 u69 u70 u71 u72 u73 u74 u75 u76 u77 u78 u79 u80 u81 u82 u83 u84 u85 u86 u87 u88 u89 u90 u91 u92 u93 u94 u95 u96 u97 u98 u99 u100 u101 u102 u103 u104 u105 u106 u107 u108 u109 u110 u111 u112 u113 : Value} {s0 s1 g0 g1 : Nat} (h : LB st D W w) (ls : Ls 3 D s0 s1 w sv L) (lg : Ls 30 D g0 g1 w gv (marks 1 L.length))(hL : L.length ≤ 1048576) (hLM : lvMove xs ys = (L, bb)) (ha : Rds W W.heap.size .i64 A xs) (ha2 : Rds W W.heap.size .i64 A2 ys) (hx : xs.length ≤ 1048576) (hy : ys.length ≤ 1048576) (hgr : ∀ b, b < W.heap.size → ¬ st.grp b) (hgs : st.gs + 4 < 1000)  :
    Done Try.prog 55 (FinL W) st (G (b3.at ⟨#[.slice A xs.length c1, .slice A2 ys.length c2, u2, u3, .bool false, sv, .bool bb, u7, u8, gv, u10, u11, .int .i64 (1 + (L.length : Int)), u13, u14, u15, u16, u17, u18, u19, u20, u21, u22, u23, u24, u25, u26, u27, u28, u29, u30, u31, u32, u33, u34, u35, u36, u37, u38, u39, u40, u41, u42, u43, u44, u45, u46, u47, u48, u49, u50, u51, u52, u53, u54, u55, u56, u57, u58, u59, u60, u61, u62, u63, u64, u65, u66, u67, u68, u69, u70, u71, u72, u73, u74, u75, u76, u77, u78, u79, u80, u81, u82, u83, u84, u85, u86, u87, u88, u89, u90, u91, u92, u93, u94, u95, u96, u97, u98, u99, u100, u101, u102, u103, u104, u105, u106, u107, u108, u109, u110, u111, u112, u113], []⟩ [.code (RW 16)]) []) w := by
  have htag := h.hP.tag
  have hd := h.hP.d
  have hF : (LB st D W w ∧ Ls 3 D s0 s1 w sv L ∧ Ls 30 D g0 g1 w gv (marks 1 L.length)) := ⟨h, ls, lg⟩
  clear h ls lg
  have hN := @law_S9
  simp only [RW, tls, tl, bodyW, Try.f3, Option.getD_some] at hN ⊢
  have hxm : xs.length ≤ maxLen := by unfold maxLen; omega
  have hym : ys.length ≤ maxLen := by unfold maxLen; omega
  have hlm : L.length ≤ maxLen := by unfold maxLen; omega
  have hlss : ((1 + (L.length : Int)) < 0) = False := eq_false (by omega)
  have fm : ∀ {w w₁ : World}, (LB st D W w ∧ Ls 3 D s0 s1 w sv L ∧ Ls 30 D g0 g1 w gv (marks 1 L.length)) → ROf 55 st w w₁ → (LB st D W w₁ ∧ Ls 3 D s0 s1 w₁ sv L ∧ Ls 30 D g0 g1 w₁ gv (marks 1 L.length)) := fun hh rr => at_rely (F := fun w => (LB st D W w ∧ Ls 3 D s0 s1 w sv L ∧ Ls 30 D g0 g1 w gv (marks 1 L.length))) (fun w d h => ⟨h.1.at d, h.2⟩) htag hh rr
  refine done_silent (n := 60) htag hd ?_
  u_c stepG_seq fm hF
  u_reg fm hF
  u_op fm hF
  u_c stepG_region_end fm hF
  u_c stepG_seq fm hF
  u_reg fm hF
  u_op fm hF
  u_op fm hF
  refine Goes.stop (fun w₁ h₁ => ?_)
  replace hF := fm hF h₁
  clear h₁
  refine ⟨rfl, held_step hF.1 hF.2.2 hL rfl rfl (by k_ne) rfl (by walk_nrm <;> rfl) fun w2 hB e => ?_⟩
  have hF2 : (LB st D W w2 ∧ Ls 3 D s0 s1 w2 sv L ∧ Ls 30 D g0 g1 w2 gv (marks 1 L.length)) := ⟨hB, hF.2.1.same e, hF.2.2.same e⟩
  clear fm hF
  have hF := hF2
  clear hF2
  clear hB e
  walk_nrm
  have fm : ∀ {w w₁ : World}, (LB st D W w ∧ Ls 3 D s0 s1 w sv L ∧ Ls 30 D g0 g1 w gv (marks 1 L.length)) → ROf 55 st w w₁ → (LB st D W w₁ ∧ Ls 3 D s0 s1 w₁ sv L ∧ Ls 30 D g0 g1 w₁ gv (marks 1 L.length)) := fun hh rr => at_rely (F := fun w => (LB st D W w ∧ Ls 3 D s0 s1 w sv L ∧ Ls 30 D g0 g1 w gv (marks 1 L.length))) (fun w d h => ⟨h.1.at d, h.2⟩) htag hh rr
  refine done_silent (n := 60) htag hd ?_
  u_op fm hF
  u_c stepG_region_end fm hF
  u_c stepG_seq fm hF
  u_c stepG_seq fm hF
  u_reg fm hF
  u_op fm hF
  u_op fm hF
  u_c stepG_region_end fm hF
  u_cond false fm hF
  u_c stepG_skip fm hF
  u_c stepG_seq fm hF
  u_c stepG_seq fm hF
  u_reg fm hF
  u_op fm hF
  u_op fm hF
  u_op fm hF
  u_c stepG_region_end fm hF
  u_cond false fm hF
  u_c stepG_skip fm hF
  refine Goes.stop (fun w₁ h₁ => ?_)
  replace hF := fm hF h₁
  clear h₁
  exact ⟨rfl, hN hF.1 hF.2.1 hF.2.2 hL hLM ha ha2 hx hy hgr hgs⟩
set_option maxRecDepth 100000 in
set_option maxHeartbeats 16000000 in
theorem law_S7 {u2 u3 u7 u8 u12 u13 u14 u15 u16 u17 u18 u19 u20 u21 u22 u23 u24 u25 u26 u27 u28 u29 u30 u31 u32 u33 u34 u35 u36 u37 u38 u39 u40 u41 u42 u43 u44 u45 u46 u47 u48 u49 u50 u51 u52 u53 u54 u55 u56 u57 u58 u59 u60 u61 u62 u63 u64 u65 u66 u67 u68 u69 u70 u71 u72 u73 u74 u75 u76 u77 u78 u79 u80 u81 u82 u83 u84 u85 u86 u87 u88 u89 u90 u91 u92 u93 u94 u95 u96 u97 u98 u99 u100 u101 u102 u103 u104 u105 u106 u107 u108 u109 u110 u111 u112 u113 : Value} {s0 s1 g0 g1 : Nat} (h : LB st D W w) (ls : Ls 3 D s0 s1 w sv L) (lg : Ls 30 D g0 g1 w gv L)(hL : L.length ≤ 1048576) (hLM : lvMove xs ys = (L, bb)) (ha : Rds W W.heap.size .i64 A xs) (ha2 : Rds W W.heap.size .i64 A2 ys) (hx : xs.length ≤ 1048576) (hy : ys.length ≤ 1048576) (hgr : ∀ b, b < W.heap.size → ¬ st.grp b) (hgs : st.gs + 4 < 1000) (hWg : W.heap.size ≤ g0) (hsg : s1 ≤ g0)  :
    Done Try.prog 55 (FinL W) st (G (b3.at ⟨#[.slice A xs.length c1, .slice A2 ys.length c2, u2, u3, .bool false, sv, .bool bb, u7, u8, gv, .bool bb, .int .i64 (1 + (xs.length : Int) + (ys.length : Int)), u12, u13, u14, u15, u16, u17, u18, u19, u20, u21, u22, u23, u24, u25, u26, u27, u28, u29, u30, u31, u32, u33, u34, u35, u36, u37, u38, u39, u40, u41, u42, u43, u44, u45, u46, u47, u48, u49, u50, u51, u52, u53, u54, u55, u56, u57, u58, u59, u60, u61, u62, u63, u64, u65, u66, u67, u68, u69, u70, u71, u72, u73, u74, u75, u76, u77, u78, u79, u80, u81, u82, u83, u84, u85, u86, u87, u88, u89, u90, u91, u92, u93, u94, u95, u96, u97, u98, u99, u100, u101, u102, u103, u104, u105, u106, u107, u108, u109, u110, u111, u112, u113], []⟩ [.code (RW 13)]) []) w := by
  have htag := h.hP.tag
  have hd := h.hP.d
  have hF : (LB st D W w ∧ Ls 3 D s0 s1 w sv L ∧ Ls 30 D g0 g1 w gv L) := ⟨h, ls, lg⟩
  clear h ls lg
  have hN := @law_S8
  simp only [RW, tls, tl, bodyW, Try.f3, Option.getD_some] at hN ⊢
  have hxm : xs.length ≤ maxLen := by unfold maxLen; omega
  have hym : ys.length ≤ maxLen := by unfold maxLen; omega
  have hlm : L.length ≤ maxLen := by unfold maxLen; omega
  have hev : ∀ w : World, (binOp BinOp.neq 4 (.bool bb) (.bool bb)).events Try.prog w #[] = #[] := fun w => by cases bb <;> kernel_rfl
  have hlss : ((1 + (xs.length : Int) + (ys.length : Int)) < 0) = False := eq_false (by omega)
  have fm : ∀ {w w₁ : World}, (LB st D W w ∧ Ls 3 D s0 s1 w sv L ∧ Ls 30 D g0 g1 w gv L) → ROf 55 st w w₁ → (LB st D W w₁ ∧ Ls 3 D s0 s1 w₁ sv L ∧ Ls 30 D g0 g1 w₁ gv L) := fun hh rr => at_rely (F := fun w => (LB st D W w ∧ Ls 3 D s0 s1 w sv L ∧ Ls 30 D g0 g1 w gv L)) (fun w d h => ⟨h.1.at d, h.2⟩) htag hh rr
  refine done_silent (n := 60) htag hd ?_
  u_c stepG_seq fm hF
  u_c stepG_seq fm hF
  u_reg fm hF
  u_op fm hF
  u_op fm hF
  u_op fm hF
  u_op fm hF
  u_op fm hF
  refine Goes.stop (fun w₁ h₁ => ?_)
  replace hF := fm hF h₁
  clear h₁
  refine ⟨rfl, eq_step hF.1 hF.2.2 hF.2.1 hlm rfl rfl (by k_ne) rfl (by walk_nrm <;> rfl) fun w2 hB e => ?_⟩
  have hF2 : (LB st D W w2 ∧ Ls 3 D s0 s1 w2 sv L ∧ Ls 30 D g0 g1 w2 gv L) := ⟨hB, hF.2.1.same e, hF.2.2.same e⟩
  clear fm hF
  have hF := hF2
  clear hF2
  clear hB e
  walk_nrm
  have fm : ∀ {w w₁ : World}, (LB st D W w ∧ Ls 3 D s0 s1 w sv L ∧ Ls 30 D g0 g1 w gv L) → ROf 55 st w w₁ → (LB st D W w₁ ∧ Ls 3 D s0 s1 w₁ sv L ∧ Ls 30 D g0 g1 w₁ gv L) := fun hh rr => at_rely (F := fun w => (LB st D W w ∧ Ls 3 D s0 s1 w sv L ∧ Ls 30 D g0 g1 w gv L)) (fun w d h => ⟨h.1.at d, h.2⟩) htag hh rr
  refine done_silent (n := 60) htag hd ?_
  u_op fm hF
  u_op fm hF
  u_op fm hF
  u_op fm hF
  u_op fm hF
  u_op fm hF
  u_op fm hF
  u_c stepG_region_end fm hF
  u_cond false fm hF
  u_c stepG_skip fm hF
  u_c stepG_seq fm hF
  u_reg fm hF
  u_op fm hF
  u_c stepG_region_end fm hF
  u_c stepG_seq fm hF
  u_reg fm hF
  u_op fm hF
  u_op fm hF
  refine Goes.stop (fun w₁ h₁ => ?_)
  replace hF := fm hF h₁
  clear h₁
  refine ⟨rfl, markV_step (K := 1) hF.1 hF.2.2 hWg hL (by omega) (by omega) rfl rfl (by k_ne) rfl (by walk_nrm <;> rfl) fun w2 hB hg hm => ?_⟩
  have hne := fun g hgg => (hF.2.2.own g hgg).2.2
  have hF2 : (LB st D W w2 ∧ Ls 3 D s0 s1 w2 sv L ∧ Ls 30 D g0 g1 w2 gv (marks 1 L.length)) := ⟨hB, hF.2.1.far hg (fun g hgg => by have := hne g hgg; omega), hm⟩
  clear fm hF
  have hF := hF2
  clear hF2
  clear hB hg hm hne
  walk_nrm
  have fm : ∀ {w w₁ : World}, (LB st D W w ∧ Ls 3 D s0 s1 w sv L ∧ Ls 30 D g0 g1 w gv (marks 1 L.length)) → ROf 55 st w w₁ → (LB st D W w₁ ∧ Ls 3 D s0 s1 w₁ sv L ∧ Ls 30 D g0 g1 w₁ gv (marks 1 L.length)) := fun hh rr => at_rely (F := fun w => (LB st D W w ∧ Ls 3 D s0 s1 w sv L ∧ Ls 30 D g0 g1 w gv (marks 1 L.length))) (fun w d h => ⟨h.1.at d, h.2⟩) htag hh rr
  refine done_silent (n := 60) htag hd ?_
  u_op fm hF
  u_c stepG_region_end fm hF
  refine Goes.stop (fun w₁ h₁ => ?_)
  replace hF := fm hF h₁
  clear h₁
  exact ⟨rfl, hN hF.1 hF.2.1 hF.2.2 hL hLM ha ha2 hx hy hgr hgs⟩
end

end Go.Proofs.Ytiodikflmijhkaa
/- The law, stretch by stretch. -/
set_option linter.unusedSectionVars false
set_option linter.unusedVariables false
set_option linter.unusedSimpArgs false
namespace Go.Proofs.Ytiodikflmijhkaa
open Go Go.Conc Go.ConcN Go.RowKit Go.Conc.Lib Go.ConcR.Gen Go.ConcN.Gen Farm Vow
open Go.ConcR (KK wgBlock WgAt stA smA rd wr mk Payload Aside2 DC0)
attribute [local irreducible] cN syn lvMove

section
variable {st : MSt} {D : Nat → Prop} {W w : World} {A A2 : Option Addr} {c1 c2 : Nat} {xs ys L : List Int} {bb : Bool} {sv xv yv gv hv : Value}
set_option maxRecDepth 100000 in
set_option maxHeartbeats 16000000 in
theorem law_S6 {u2 u3 u11 u12 u13 u14 u15 u16 u17 u18 u19 u20 u21 u22 u23 u24 u25 u26 u27 u28 u29 u30 u31 u32 u33 u34 u35 u36 u37 u38 u39 u40 u41 u42 u43 u44 u45 u46 u47 u48 u49 u50 u51 u52 u53 u54 u55 u56 u57 u58 u59 u60 u61 u62 u63 u64 u65 u66 u67 u68 u69 u70 u71 u72 u73 u74 u75 u76 u77 u78 u79 u80 u81 u82 u83 u84 u85 u86 u87 u88 u89 u90 u91 u92 u93 u94 u95 u96 u97 u98 u99 u100 u101 u102 u103 u104 u105 u106 u107 u108 u109 u110 u111 u112 u113 : Value} {s0 s1 x0 x1 y0 y1 g0 g1 : Nat} (h : LB st D W w) (ls : Ls 3 D s0 s1 w sv L) (lx : Ls 3 D x0 x1 w xv xs) (ly : Ls 3 D y0 y1 w yv ys) (lg : Ls 30 D g0 g1 w gv L)(hL : L.length ≤ 1048576) (hLM : lvMove xs ys = (L, bb)) (ha : Rds W W.heap.size .i64 A xs) (ha2 : Rds W W.heap.size .i64 A2 ys) (hx : xs.length ≤ 1048576) (hy : ys.length ≤ 1048576) (hgr : ∀ b, b < W.heap.size → ¬ st.grp b) (hgs : st.gs + 4 < 1000) (eWx : W.heap.size ≤ x0) (esx : s1 ≤ x0) (exy : x1 ≤ y0) (eyg : y1 ≤ g0) (vx : x0 ≤ x1) (vy : y0 ≤ y1)  :
    Done Try.prog 55 (FinL W) st (G (b3.at ⟨#[.slice A xs.length c1, .slice A2 ys.length c2, u2, u3, .bool false, sv, .bool bb, xv, yv, gv, .bool bb, u11, u12, u13, u14, u15, u16, u17, u18, u19, u20, u21, u22, u23, u24, u25, u26, u27, u28, u29, u30, u31, u32, u33, u34, u35, u36, u37, u38, u39, u40, u41, u42, u43, u44, u45, u46, u47, u48, u49, u50, u51, u52, u53, u54, u55, u56, u57, u58, u59, u60, u61, u62, u63, u64, u65, u66, u67, u68, u69, u70, u71, u72, u73, u74, u75, u76, u77, u78, u79, u80, u81, u82, u83, u84, u85, u86, u87, u88, u89, u90, u91, u92, u93, u94, u95, u96, u97, u98, u99, u100, u101, u102, u103, u104, u105, u106, u107, u108, u109, u110, u111, u112, u113], []⟩ [.code (RW 10)]) []) w := by
  have htag := h.hP.tag
  have hd := h.hP.d
  have hF : (LB st D W w ∧ Ls 3 D s0 s1 w sv L ∧ Ls 3 D x0 x1 w xv xs ∧ Ls 3 D y0 y1 w yv ys ∧ Ls 30 D g0 g1 w gv L) := ⟨h, ls, lx, ly, lg⟩
  clear h ls lx ly lg
  have hN := @law_S7
  simp only [RW, tls, tl, bodyW, Try.f3, Option.getD_some] at hN ⊢
  have hxm : xs.length ≤ maxLen := by unfold maxLen; omega
  have hym : ys.length ≤ maxLen := by unfold maxLen; omega
  have hlm : L.length ≤ maxLen := by unfold maxLen; omega
  have fm : ∀ {w w₁ : World}, (LB st D W w ∧ Ls 3 D s0 s1 w sv L ∧ Ls 3 D x0 x1 w xv xs ∧ Ls 3 D y0 y1 w yv ys ∧ Ls 30 D g0 g1 w gv L) → ROf 55 st w w₁ → (LB st D W w₁ ∧ Ls 3 D s0 s1 w₁ sv L ∧ Ls 3 D x0 x1 w₁ xv xs ∧ Ls 3 D y0 y1 w₁ yv ys ∧ Ls 30 D g0 g1 w₁ gv L) := fun hh rr => at_rely (F := fun w => (LB st D W w ∧ Ls 3 D s0 s1 w sv L ∧ Ls 3 D x0 x1 w xv xs ∧ Ls 3 D y0 y1 w yv ys ∧ Ls 30 D g0 g1 w gv L)) (fun w d h => ⟨h.1.at d, h.2⟩) htag hh rr
  refine done_silent (n := 60) htag hd ?_
  u_c stepG_seq fm hF
  u_reg fm hF
  u_op fm hF
  u_c stepG_region_end fm hF
  u_c stepG_seq fm hF
  u_reg fm hF
  u_op fm hF
  u_op fm hF
  refine Goes.stop (fun w₁ h₁ => ?_)
  replace hF := fm hF h₁
  clear h₁
  refine ⟨rfl, mark_step (K := 1) hF.1 hF.2.2.1 eWx hx (by omega) (by omega) rfl rfl (by k_ne) rfl (by walk_nrm <;> rfl) fun w2 hB hg hm => ?_⟩
  have hne := fun g hgg => (hF.2.2.1.own g hgg).2.2
  have hF2 : (LB st D W w2 ∧ Ls 3 D s0 s1 w2 sv L ∧ Ls 3 D y0 y1 w2 yv ys ∧ Ls 30 D g0 g1 w2 gv L ∧ Ls 3 D x0 x1 w2 xv (marks 1 xs.length)) := ⟨hB, hF.2.1.far hg (fun g hgg => by have := hne g hgg; omega), hF.2.2.2.1.far hg (fun g hgg => by have := hne g hgg; omega), hF.2.2.2.2.far hg (fun g hgg => by have := hne g hgg; omega), hm⟩
  clear fm hF
  have hF := hF2
  clear hF2
  clear hB hg hm hne
  walk_nrm
  have fm : ∀ {w w₁ : World}, (LB st D W w ∧ Ls 3 D s0 s1 w sv L ∧ Ls 3 D y0 y1 w yv ys ∧ Ls 30 D g0 g1 w gv L ∧ Ls 3 D x0 x1 w xv (marks 1 xs.length)) → ROf 55 st w w₁ → (LB st D W w₁ ∧ Ls 3 D s0 s1 w₁ sv L ∧ Ls 3 D y0 y1 w₁ yv ys ∧ Ls 30 D g0 g1 w₁ gv L ∧ Ls 3 D x0 x1 w₁ xv (marks 1 xs.length)) := fun hh rr => at_rely (F := fun w => (LB st D W w ∧ Ls 3 D s0 s1 w sv L ∧ Ls 3 D y0 y1 w yv ys ∧ Ls 30 D g0 g1 w gv L ∧ Ls 3 D x0 x1 w xv (marks 1 xs.length))) (fun w d h => ⟨h.1.at d, h.2⟩) htag hh rr
  refine done_silent (n := 60) htag hd ?_
  u_op fm hF
  u_c stepG_region_end fm hF
  u_c stepG_seq fm hF
  u_reg fm hF
  u_op fm hF
  u_op fm hF
  refine Goes.stop (fun w₁ h₁ => ?_)
  replace hF := fm hF h₁
  clear h₁
  refine ⟨rfl, mark_step (K := (1 + (xs.length : Int))) hF.1 hF.2.2.1 (by omega) hy (by omega) (by omega) rfl rfl (by k_ne) rfl (by walk_nrm <;> rfl) fun w2 hB hg hm => ?_⟩
  have hne := fun g hgg => (hF.2.2.1.own g hgg).2.2
  have hF2 : (LB st D W w2 ∧ Ls 3 D s0 s1 w2 sv L ∧ Ls 30 D g0 g1 w2 gv L ∧ Ls 3 D x0 x1 w2 xv (marks 1 xs.length) ∧ Ls 3 D y0 y1 w2 yv (marks (1 + (xs.length : Int)) ys.length)) := ⟨hB, hF.2.1.far hg (fun g hgg => by have := hne g hgg; omega), hF.2.2.2.1.far hg (fun g hgg => by have := hne g hgg; omega), hF.2.2.2.2.far hg (fun g hgg => by have := hne g hgg; omega), hm⟩
  clear fm hF
  have hF := hF2
  clear hF2
  clear hB hg hm hne
  walk_nrm
  have fm : ∀ {w w₁ : World}, (LB st D W w ∧ Ls 3 D s0 s1 w sv L ∧ Ls 30 D g0 g1 w gv L ∧ Ls 3 D x0 x1 w xv (marks 1 xs.length) ∧ Ls 3 D y0 y1 w yv (marks (1 + (xs.length : Int)) ys.length)) → ROf 55 st w w₁ → (LB st D W w₁ ∧ Ls 3 D s0 s1 w₁ sv L ∧ Ls 30 D g0 g1 w₁ gv L ∧ Ls 3 D x0 x1 w₁ xv (marks 1 xs.length) ∧ Ls 3 D y0 y1 w₁ yv (marks (1 + (xs.length : Int)) ys.length)) := fun hh rr => at_rely (F := fun w => (LB st D W w ∧ Ls 3 D s0 s1 w sv L ∧ Ls 30 D g0 g1 w gv L ∧ Ls 3 D x0 x1 w xv (marks 1 xs.length) ∧ Ls 3 D y0 y1 w yv (marks (1 + (xs.length : Int)) ys.length))) (fun w d h => ⟨h.1.at d, h.2⟩) htag hh rr
  refine done_silent (n := 60) htag hd ?_
  u_op fm hF
  u_c stepG_region_end fm hF
  refine Goes.stop (fun w₁ h₁ => ?_)
  replace hF := fm hF h₁
  clear h₁
  exact ⟨rfl, hN hF.1 hF.2.1 hF.2.2.1 hL hLM ha ha2 hx hy hgr hgs (by omega) (by omega)⟩
set_option maxRecDepth 100000 in
set_option maxHeartbeats 16000000 in
theorem law_S5 {u2 u3 u11 u12 u13 u14 u15 u16 u17 u18 u19 u20 u21 u22 u23 u24 u25 u26 u27 u28 u29 u30 u31 u32 u33 u34 u35 u36 u37 u38 u39 u40 u41 u42 u43 u44 u45 u46 u47 u48 u49 u50 u51 u52 u53 u54 u55 u56 u57 u58 u59 u60 u61 u62 u63 u64 u65 u66 u67 u68 u69 u70 u71 u72 u73 u74 u75 u76 u77 u78 u79 u80 u81 u82 u83 u84 u85 u86 u87 u88 u89 u90 u91 u92 u93 u94 u95 u96 u97 u98 u99 u100 u101 u102 u103 u104 u105 u106 u107 u108 u109 u110 u111 u112 u113 : Value} {s0 s1 x0 x1 y0 y1 g0 g1 : Nat} (h : LB st D W w) (ls : Ls 3 D s0 s1 w sv L) (lx : Ls 3 D x0 x1 w xv xs) (ly : Ls 3 D y0 y1 w yv ys) (lg : Ls 30 D g0 g1 w gv L)(hL : L.length ≤ 1048576) (hLM : lvMove xs ys = (L, bb)) (ha : Rds W W.heap.size .i64 A xs) (ha2 : Rds W W.heap.size .i64 A2 ys) (hx : xs.length ≤ 1048576) (hy : ys.length ≤ 1048576) (hgr : ∀ b, b < W.heap.size → ¬ st.grp b) (hgs : st.gs + 4 < 1000) (eWx : W.heap.size ≤ x0) (esx : s1 ≤ x0) (exy : x1 ≤ y0) (eyg : y1 ≤ g0) (vx : x0 ≤ x1) (vy : y0 ≤ y1)  :
    Done Try.prog 55 (FinL W) st (G (b3.at ⟨#[.slice A xs.length c1, .slice A2 ys.length c2, u2, u3, .bool false, sv, .bool bb, xv, yv, gv, .bool bb, u11, u12, u13, u14, u15, u16, u17, u18, u19, u20, u21, u22, u23, u24, u25, u26, u27, u28, u29, u30, u31, u32, u33, u34, u35, u36, u37, u38, u39, u40, u41, u42, u43, u44, u45, u46, u47, u48, u49, u50, u51, u52, u53, u54, u55, u56, u57, u58, u59, u60, u61, u62, u63, u64, u65, u66, u67, u68, u69, u70, u71, u72, u73, u74, u75, u76, u77, u78, u79, u80, u81, u82, u83, u84, u85, u86, u87, u88, u89, u90, u91, u92, u93, u94, u95, u96, u97, u98, u99, u100, u101, u102, u103, u104, u105, u106, u107, u108, u109, u110, u111, u112, u113], []⟩ [.code (RW 8)]) []) w := by
  have htag := h.hP.tag
  have hd := h.hP.d
  have hF : (LB st D W w ∧ Ls 3 D s0 s1 w sv L ∧ Ls 3 D x0 x1 w xv xs ∧ Ls 3 D y0 y1 w yv ys ∧ Ls 30 D g0 g1 w gv L) := ⟨h, ls, lx, ly, lg⟩
  clear h ls lx ly lg
  have hN := @law_S6
  simp only [RW, tls, tl, bodyW, Try.f3, Option.getD_some] at hN ⊢
  have hxm : xs.length ≤ maxLen := by unfold maxLen; omega
  have hym : ys.length ≤ maxLen := by unfold maxLen; omega
  have hlm : L.length ≤ maxLen := by unfold maxLen; omega
  have hlx : xs.length ≤ maxLen := hxm
  have fm : ∀ {w w₁ : World}, (LB st D W w ∧ Ls 3 D s0 s1 w sv L ∧ Ls 3 D x0 x1 w xv xs ∧ Ls 3 D y0 y1 w yv ys ∧ Ls 30 D g0 g1 w gv L) → ROf 55 st w w₁ → (LB st D W w₁ ∧ Ls 3 D s0 s1 w₁ sv L ∧ Ls 3 D x0 x1 w₁ xv xs ∧ Ls 3 D y0 y1 w₁ yv ys ∧ Ls 30 D g0 g1 w₁ gv L) := fun hh rr => at_rely (F := fun w => (LB st D W w ∧ Ls 3 D s0 s1 w sv L ∧ Ls 3 D x0 x1 w xv xs ∧ Ls 3 D y0 y1 w yv ys ∧ Ls 30 D g0 g1 w gv L)) (fun w d h => ⟨h.1.at d, h.2⟩) htag hh rr
  refine done_silent (n := 60) htag hd ?_
  u_c stepG_seq fm hF
  u_c stepG_seq fm hF
  u_reg fm hF
  u_op fm hF
  u_op fm hF
  refine Goes.stop (fun w₁ h₁ => ?_)
  replace hF := fm hF h₁
  clear h₁
  refine ⟨rfl, toInt_step hF.1 ha hx hgr rfl rfl (by k_ne) rfl (by walk_nrm <;> rfl) fun w2 pv hB hb hl => ?_⟩
  obtain ⟨p0, p1, lp⟩ : ∃ n m, Ls 3 D n m w2 pv xs := ⟨_, _, hl⟩
  have hF2 : (LB st D W w2 ∧ Ls 3 D s0 s1 w2 sv L ∧ Ls 3 D x0 x1 w2 xv xs ∧ Ls 3 D y0 y1 w2 yv ys ∧ Ls 30 D g0 g1 w2 gv L ∧ Ls 3 D p0 p1 w2 pv xs) := ⟨hB, hF.2.1.below hb, hF.2.2.1.below hb, hF.2.2.2.1.below hb, hF.2.2.2.2.below hb, lp⟩
  clear fm hF hl hb lp
  have hF := hF2
  clear hF2 hB
  walk_nrm
  have fm : ∀ {w w₁ : World}, (LB st D W w ∧ Ls 3 D s0 s1 w sv L ∧ Ls 3 D x0 x1 w xv xs ∧ Ls 3 D y0 y1 w yv ys ∧ Ls 30 D g0 g1 w gv L ∧ Ls 3 D p0 p1 w pv xs) → ROf 55 st w w₁ → (LB st D W w₁ ∧ Ls 3 D s0 s1 w₁ sv L ∧ Ls 3 D x0 x1 w₁ xv xs ∧ Ls 3 D y0 y1 w₁ yv ys ∧ Ls 30 D g0 g1 w₁ gv L ∧ Ls 3 D p0 p1 w₁ pv xs) := fun hh rr => at_rely (F := fun w => (LB st D W w ∧ Ls 3 D s0 s1 w sv L ∧ Ls 3 D x0 x1 w xv xs ∧ Ls 3 D y0 y1 w yv ys ∧ Ls 30 D g0 g1 w gv L ∧ Ls 3 D p0 p1 w pv xs)) (fun w d h => ⟨h.1.at d, h.2⟩) htag hh rr
  refine done_silent (n := 60) htag hd ?_

  refine Goes.stop (fun w₁ h₁ => ?_)
  replace hF := fm hF h₁
  clear h₁
  refine ⟨rfl, eq_step hF.1 hF.2.2.1 hF.2.2.2.2.2 hxm rfl rfl (by k_ne) rfl (by walk_nrm <;> rfl) fun w2 hB e => ?_⟩
  have hF2 : (LB st D W w2 ∧ Ls 3 D s0 s1 w2 sv L ∧ Ls 3 D x0 x1 w2 xv xs ∧ Ls 3 D y0 y1 w2 yv ys ∧ Ls 30 D g0 g1 w2 gv L ∧ Ls 3 D p0 p1 w2 pv xs) := ⟨hB, hF.2.1.same e, hF.2.2.1.same e, hF.2.2.2.1.same e, hF.2.2.2.2.1.same e, hF.2.2.2.2.2.same e⟩
  clear fm hF
  have hF := hF2
  clear hF2
  clear hB e
  walk_nrm
  have fm : ∀ {w w₁ : World}, (LB st D W w ∧ Ls 3 D s0 s1 w sv L ∧ Ls 3 D x0 x1 w xv xs ∧ Ls 3 D y0 y1 w yv ys ∧ Ls 30 D g0 g1 w gv L ∧ Ls 3 D p0 p1 w pv xs) → ROf 55 st w w₁ → (LB st D W w₁ ∧ Ls 3 D s0 s1 w₁ sv L ∧ Ls 3 D x0 x1 w₁ xv xs ∧ Ls 3 D y0 y1 w₁ yv ys ∧ Ls 30 D g0 g1 w₁ gv L ∧ Ls 3 D p0 p1 w₁ pv xs) := fun hh rr => at_rely (F := fun w => (LB st D W w ∧ Ls 3 D s0 s1 w sv L ∧ Ls 3 D x0 x1 w xv xs ∧ Ls 3 D y0 y1 w yv ys ∧ Ls 30 D g0 g1 w gv L ∧ Ls 3 D p0 p1 w pv xs)) (fun w d h => ⟨h.1.at d, h.2⟩) htag hh rr
  refine done_silent (n := 60) htag hd ?_
  u_op fm hF
  u_c stepG_region_end fm hF
  u_cond false fm hF
  u_c stepG_skip fm hF
  u_c stepG_seq fm hF
  u_c stepG_seq fm hF
  u_reg fm hF
  u_op fm hF
  u_op fm hF
  refine Goes.stop (fun w₁ h₁ => ?_)
  replace hF := fm hF h₁
  clear h₁
  refine ⟨rfl, toInt_step hF.1 ha2 hy hgr rfl rfl (by k_ne) rfl (by walk_nrm <;> rfl) fun w2 qv hB hb hl => ?_⟩
  obtain ⟨q0, q1, lq⟩ : ∃ n m, Ls 3 D n m w2 qv ys := ⟨_, _, hl⟩
  have hF2 : (LB st D W w2 ∧ Ls 3 D s0 s1 w2 sv L ∧ Ls 3 D x0 x1 w2 xv xs ∧ Ls 3 D y0 y1 w2 yv ys ∧ Ls 30 D g0 g1 w2 gv L ∧ Ls 3 D p0 p1 w2 pv xs ∧ Ls 3 D q0 q1 w2 qv ys) := ⟨hB, hF.2.1.below hb, hF.2.2.1.below hb, hF.2.2.2.1.below hb, hF.2.2.2.2.1.below hb, hF.2.2.2.2.2.below hb, lq⟩
  clear fm hF hl hb lq
  have hF := hF2
  clear hF2 hB
  walk_nrm
  have fm : ∀ {w w₁ : World}, (LB st D W w ∧ Ls 3 D s0 s1 w sv L ∧ Ls 3 D x0 x1 w xv xs ∧ Ls 3 D y0 y1 w yv ys ∧ Ls 30 D g0 g1 w gv L ∧ Ls 3 D p0 p1 w pv xs ∧ Ls 3 D q0 q1 w qv ys) → ROf 55 st w w₁ → (LB st D W w₁ ∧ Ls 3 D s0 s1 w₁ sv L ∧ Ls 3 D x0 x1 w₁ xv xs ∧ Ls 3 D y0 y1 w₁ yv ys ∧ Ls 30 D g0 g1 w₁ gv L ∧ Ls 3 D p0 p1 w₁ pv xs ∧ Ls 3 D q0 q1 w₁ qv ys) := fun hh rr => at_rely (F := fun w => (LB st D W w ∧ Ls 3 D s0 s1 w sv L ∧ Ls 3 D x0 x1 w xv xs ∧ Ls 3 D y0 y1 w yv ys ∧ Ls 30 D g0 g1 w gv L ∧ Ls 3 D p0 p1 w pv xs ∧ Ls 3 D q0 q1 w qv ys)) (fun w d h => ⟨h.1.at d, h.2⟩) htag hh rr
  refine done_silent (n := 60) htag hd ?_

  refine Goes.stop (fun w₁ h₁ => ?_)
  replace hF := fm hF h₁
  clear h₁
  refine ⟨rfl, eq_step hF.1 hF.2.2.2.1 hF.2.2.2.2.2.2 hym rfl rfl (by k_ne) rfl (by walk_nrm <;> rfl) fun w2 hB e => ?_⟩
  have hF2 : (LB st D W w2 ∧ Ls 3 D s0 s1 w2 sv L ∧ Ls 3 D x0 x1 w2 xv xs ∧ Ls 3 D y0 y1 w2 yv ys ∧ Ls 30 D g0 g1 w2 gv L ∧ Ls 3 D p0 p1 w2 pv xs ∧ Ls 3 D q0 q1 w2 qv ys) := ⟨hB, hF.2.1.same e, hF.2.2.1.same e, hF.2.2.2.1.same e, hF.2.2.2.2.1.same e, hF.2.2.2.2.2.1.same e, hF.2.2.2.2.2.2.same e⟩
  clear fm hF
  have hF := hF2
  clear hF2
  clear hB e
  walk_nrm
  have fm : ∀ {w w₁ : World}, (LB st D W w ∧ Ls 3 D s0 s1 w sv L ∧ Ls 3 D x0 x1 w xv xs ∧ Ls 3 D y0 y1 w yv ys ∧ Ls 30 D g0 g1 w gv L ∧ Ls 3 D p0 p1 w pv xs ∧ Ls 3 D q0 q1 w qv ys) → ROf 55 st w w₁ → (LB st D W w₁ ∧ Ls 3 D s0 s1 w₁ sv L ∧ Ls 3 D x0 x1 w₁ xv xs ∧ Ls 3 D y0 y1 w₁ yv ys ∧ Ls 30 D g0 g1 w₁ gv L ∧ Ls 3 D p0 p1 w₁ pv xs ∧ Ls 3 D q0 q1 w₁ qv ys) := fun hh rr => at_rely (F := fun w => (LB st D W w ∧ Ls 3 D s0 s1 w sv L ∧ Ls 3 D x0 x1 w xv xs ∧ Ls 3 D y0 y1 w yv ys ∧ Ls 30 D g0 g1 w gv L ∧ Ls 3 D p0 p1 w pv xs ∧ Ls 3 D q0 q1 w qv ys)) (fun w d h => ⟨h.1.at d, h.2⟩) htag hh rr
  refine done_silent (n := 60) htag hd ?_
  u_op fm hF
  u_c stepG_region_end fm hF
  u_cond false fm hF
  u_c stepG_skip fm hF
  refine Goes.stop (fun w₁ h₁ => ?_)
  replace hF := fm hF h₁
  clear h₁
  exact ⟨rfl, hN hF.1 hF.2.1 hF.2.2.1 hF.2.2.2.1 hF.2.2.2.2.1 hL hLM ha ha2 hx hy hgr hgs eWx esx exy eyg vx vy⟩
set_option maxRecDepth 100000 in
set_option maxHeartbeats 16000000 in
theorem law_S4 {u2 u3 u11 u12 u13 u14 u15 u16 u17 u18 u19 u20 u21 u22 u23 u24 u25 u26 u27 u28 u29 u30 u31 u32 u33 u34 u35 u36 u37 u38 u39 u40 u41 u42 u43 u44 u45 u46 u47 u48 u49 u50 u51 u52 u53 u54 u55 u56 u57 u58 u59 u60 u61 u62 u63 u64 u65 u66 u67 u68 u69 u70 u71 u72 u73 u74 u75 u76 u77 u78 u79 u80 u81 u82 u83 u84 u85 u86 u87 u88 u89 u90 u91 u92 u93 u94 u95 u96 u97 u98 u99 u100 u101 u102 u103 u104 u105 u106 u107 u108 u109 u110 u111 u112 u113 : Value} {s0 s1 x0 x1 y0 y1 g0 g1 : Nat} (h : LB st D W w) (ls : Ls 3 D s0 s1 w sv L) (lx : Ls 3 D x0 x1 w xv xs) (ly : Ls 3 D y0 y1 w yv ys) (lg : Ls 30 D g0 g1 w gv L)(hL : L.length ≤ 1048576) (hLM : lvMove xs ys = (L, bb)) (ha : Rds W W.heap.size .i64 A xs) (ha2 : Rds W W.heap.size .i64 A2 ys) (hx : xs.length ≤ 1048576) (hy : ys.length ≤ 1048576) (hgr : ∀ b, b < W.heap.size → ¬ st.grp b) (hgs : st.gs + 4 < 1000) (eWx : W.heap.size ≤ x0) (esx : s1 ≤ x0) (exy : x1 ≤ y0) (eyg : y1 ≤ g0) (vx : x0 ≤ x1) (vy : y0 ≤ y1)  :
    Done Try.prog 55 (FinL W) st (G (b3.at ⟨#[.slice A xs.length c1, .slice A2 ys.length c2, u2, u3, .bool false, sv, .bool bb, xv, yv, gv, .bool bb, u11, u12, u13, u14, u15, u16, u17, u18, u19, u20, u21, u22, u23, u24, u25, u26, u27, u28, u29, u30, u31, u32, u33, u34, u35, u36, u37, u38, u39, u40, u41, u42, u43, u44, u45, u46, u47, u48, u49, u50, u51, u52, u53, u54, u55, u56, u57, u58, u59, u60, u61, u62, u63, u64, u65, u66, u67, u68, u69, u70, u71, u72, u73, u74, u75, u76, u77, u78, u79, u80, u81, u82, u83, u84, u85, u86, u87, u88, u89, u90, u91, u92, u93, u94, u95, u96, u97, u98, u99, u100, u101, u102, u103, u104, u105, u106, u107, u108, u109, u110, u111, u112, u113], []⟩ [.code (RW 7)]) []) w := by
  have htag := h.hP.tag
  have hd := h.hP.d
  have hF : (LB st D W w ∧ Ls 3 D s0 s1 w sv L ∧ Ls 3 D x0 x1 w xv xs ∧ Ls 3 D y0 y1 w yv ys ∧ Ls 30 D g0 g1 w gv L) := ⟨h, ls, lx, ly, lg⟩
  clear h ls lx ly lg
  have hN := @law_S5
  simp only [RW, tls, tl, bodyW, Try.f3, Option.getD_some] at hN ⊢
  have hxm : xs.length ≤ maxLen := by unfold maxLen; omega
  have hym : ys.length ≤ maxLen := by unfold maxLen; omega
  have hlm : L.length ≤ maxLen := by unfold maxLen; omega
  have hev : ∀ w : World, (binOp BinOp.neq 4 (.bool bb) (.bool bb)).events Try.prog w #[] = #[] := fun w => by cases bb <;> kernel_rfl
  have fm : ∀ {w w₁ : World}, (LB st D W w ∧ Ls 3 D s0 s1 w sv L ∧ Ls 3 D x0 x1 w xv xs ∧ Ls 3 D y0 y1 w yv ys ∧ Ls 30 D g0 g1 w gv L) → ROf 55 st w w₁ → (LB st D W w₁ ∧ Ls 3 D s0 s1 w₁ sv L ∧ Ls 3 D x0 x1 w₁ xv xs ∧ Ls 3 D y0 y1 w₁ yv ys ∧ Ls 30 D g0 g1 w₁ gv L) := fun hh rr => at_rely (F := fun w => (LB st D W w ∧ Ls 3 D s0 s1 w sv L ∧ Ls 3 D x0 x1 w xv xs ∧ Ls 3 D y0 y1 w yv ys ∧ Ls 30 D g0 g1 w gv L)) (fun w d h => ⟨h.1.at d, h.2⟩) htag hh rr
  refine done_silent (n := 60) htag hd ?_
  u_c stepG_seq fm hF
  u_c stepG_seq fm hF
  u_reg fm hF
  u_op fm hF
  u_op fm hF
  refine Goes.stop (fun w₁ h₁ => ?_)
  replace hF := fm hF h₁
  clear h₁
  refine ⟨rfl, eq_step hF.1 hF.2.2.2.2 hF.2.1 hlm rfl rfl (by k_ne) rfl (by walk_nrm <;> rfl) fun w2 hB e => ?_⟩
  have hF2 : (LB st D W w2 ∧ Ls 3 D s0 s1 w2 sv L ∧ Ls 3 D x0 x1 w2 xv xs ∧ Ls 3 D y0 y1 w2 yv ys ∧ Ls 30 D g0 g1 w2 gv L) := ⟨hB, hF.2.1.same e, hF.2.2.1.same e, hF.2.2.2.1.same e, hF.2.2.2.2.same e⟩
  clear fm hF
  have hF := hF2
  clear hF2
  clear hB e
  walk_nrm
  have fm : ∀ {w w₁ : World}, (LB st D W w ∧ Ls 3 D s0 s1 w sv L ∧ Ls 3 D x0 x1 w xv xs ∧ Ls 3 D y0 y1 w yv ys ∧ Ls 30 D g0 g1 w gv L) → ROf 55 st w w₁ → (LB st D W w₁ ∧ Ls 3 D s0 s1 w₁ sv L ∧ Ls 3 D x0 x1 w₁ xv xs ∧ Ls 3 D y0 y1 w₁ yv ys ∧ Ls 30 D g0 g1 w₁ gv L) := fun hh rr => at_rely (F := fun w => (LB st D W w ∧ Ls 3 D s0 s1 w sv L ∧ Ls 3 D x0 x1 w xv xs ∧ Ls 3 D y0 y1 w yv ys ∧ Ls 30 D g0 g1 w gv L)) (fun w d h => ⟨h.1.at d, h.2⟩) htag hh rr
  refine done_silent (n := 60) htag hd ?_
  u_op fm hF
  u_op fm hF
  u_op fm hF
  u_op fm hF
  u_op fm hF
  u_op fm hF
  u_c stepG_region_end fm hF
  u_cond false fm hF
  u_c stepG_skip fm hF
  refine Goes.stop (fun w₁ h₁ => ?_)
  replace hF := fm hF h₁
  clear h₁
  exact ⟨rfl, hN hF.1 hF.2.1 hF.2.2.1 hF.2.2.2.1 hF.2.2.2.2 hL hLM ha ha2 hx hy hgr hgs eWx esx exy eyg vx vy⟩
end

end Go.Proofs.Ytiodikflmijhkaa
/- The law, stretch by stretch. -/
set_option linter.unusedSectionVars false
set_option linter.unusedVariables false
set_option linter.unusedSimpArgs false
namespace Go.Proofs.Ytiodikflmijhkaa
open Go Go.Conc Go.ConcN Go.RowKit Go.Conc.Lib Go.ConcR.Gen Go.ConcN.Gen Farm Vow
open Go.ConcR (KK wgBlock WgAt stA smA rd wr mk Payload Aside2 DC0)
attribute [local irreducible] cN syn lvMove

section
variable {st : MSt} {D : Nat → Prop} {W w : World} {A A2 : Option Addr} {c1 c2 : Nat} {xs ys L : List Int} {bb : Bool} {sv xv yv gv hv : Value}
set_option maxRecDepth 100000 in
set_option maxHeartbeats 16000000 in
theorem law_S3 {u2 u3 u9 u10 u11 u12 u13 u14 u15 u16 u17 u18 u19 u20 u21 u22 u23 u24 u25 u26 u27 u28 u29 u30 u31 u32 u33 u34 u35 u36 u37 u38 u39 u40 u41 u42 u43 u44 u45 u46 u47 u48 u49 u50 u51 u52 u53 u54 u55 u56 u57 u58 u59 u60 u61 u62 u63 u64 u65 u66 u67 u68 u69 u70 u71 u72 u73 u74 u75 u76 u77 u78 u79 u80 u81 u82 u83 u84 u85 u86 u87 u88 u89 u90 u91 u92 u93 u94 u95 u96 u97 u98 u99 u100 u101 u102 u103 u104 u105 u106 u107 u108 u109 u110 u111 u112 u113 : Value} {s0 s1 x0 x1 y0 y1 : Nat} (h : LB st D W w) (ls : Ls 3 D s0 s1 w sv L) (lx : Ls 3 D x0 x1 w xv xs) (ly : Ls 3 D y0 y1 w yv ys) (lT : y1 ≤ w.heap.size)(hL : L.length ≤ 1048576) (hLM : lvMove xs ys = (L, bb)) (ha : Rds W W.heap.size .i64 A xs) (ha2 : Rds W W.heap.size .i64 A2 ys) (hx : xs.length ≤ 1048576) (hy : ys.length ≤ 1048576) (hgr : ∀ b, b < W.heap.size → ¬ st.grp b) (hgs8 : st.gs + 8 < 1000) (eWx : W.heap.size ≤ x0) (esx : s1 ≤ x0) (exy : x1 ≤ y0) (vx : x0 ≤ x1) (vy : y0 ≤ y1)  :
    Done Try.prog 55 (FinL W) st (G (b3.at ⟨#[.slice A xs.length c1, .slice A2 ys.length c2, u2, u3, .bool false, sv, .bool bb, xv, yv, u9, u10, u11, u12, u13, u14, u15, u16, u17, u18, u19, u20, u21, u22, u23, u24, u25, u26, u27, u28, u29, u30, u31, u32, u33, u34, u35, u36, u37, u38, u39, u40, u41, u42, u43, u44, u45, u46, u47, u48, u49, u50, u51, u52, u53, u54, u55, u56, u57, u58, u59, u60, u61, u62, u63, u64, u65, u66, u67, u68, u69, u70, u71, u72, u73, u74, u75, u76, u77, u78, u79, u80, u81, u82, u83, u84, u85, u86, u87, u88, u89, u90, u91, u92, u93, u94, u95, u96, u97, u98, u99, u100, u101, u102, u103, u104, u105, u106, u107, u108, u109, u110, u111, u112, u113], []⟩ [.code (RW 6)]) []) w := by
  have htag := h.hP.tag
  have hd := h.hP.d
  have hF : (LB st D W w ∧ Ls 3 D s0 s1 w sv L ∧ Ls 3 D x0 x1 w xv xs ∧ Ls 3 D y0 y1 w yv ys ∧ y1 ≤ w.heap.size) := ⟨h, ls, lx, ly, lT⟩
  clear h ls lx ly lT
  have hN := @law_S4
  simp only [RW, tls, tl, bodyW, Try.f3, Option.getD_some] at hN ⊢
  have hxm : xs.length ≤ maxLen := by unfold maxLen; omega
  have hym : ys.length ≤ maxLen := by unfold maxLen; omega
  have hlm : L.length ≤ maxLen := by unfold maxLen; omega
  have hgs : st.gs + 4 < 1000 := by omega
  have fm : ∀ {w w₁ : World}, (LB st D W w ∧ Ls 3 D s0 s1 w sv L ∧ Ls 3 D x0 x1 w xv xs ∧ Ls 3 D y0 y1 w yv ys ∧ y1 ≤ w.heap.size) → ROf 55 st w w₁ → (LB st D W w₁ ∧ Ls 3 D s0 s1 w₁ sv L ∧ Ls 3 D x0 x1 w₁ xv xs ∧ Ls 3 D y0 y1 w₁ yv ys ∧ y1 ≤ w₁.heap.size) := fun hh rr => at_rely (F := fun w => (LB st D W w ∧ Ls 3 D s0 s1 w sv L ∧ Ls 3 D x0 x1 w xv xs ∧ Ls 3 D y0 y1 w yv ys ∧ y1 ≤ w.heap.size)) (fun w d h => ⟨h.1.at d, h.2⟩) htag hh rr
  refine done_silent (n := 60) htag hd ?_
  u_c stepG_seq fm hF
  u_reg fm hF
  u_op fm hF
  u_op fm hF
  refine Goes.stop (fun w₁ h₁ => ?_)
  replace hF := fm hF h₁
  clear h₁
  have hKn : ∀ q, (fun q => sv.ownBlock = some q ∨ xv.ownBlock = some q ∨ yv.ownBlock = some q) q → ¬ D q ∧ IntRow w₁ q := by
    rintro q (hq | hq | hq)
    · exact ⟨(hF.2.1.own q hq).1, (hF.2.1.own q hq).2.1⟩
    · exact ⟨(hF.2.2.1.own q hq).1, (hF.2.2.1.own q hq).2.1⟩
    · exact ⟨(hF.2.2.2.1.own q hq).1, (hF.2.2.2.1.own q hq).2.1⟩
  refine ⟨rfl, impl_step hLM hF.1 hF.2.2.1 hF.2.2.2.1 hxm hym (K := (fun q => sv.ownBlock = some q ∨ xv.ownBlock = some q ∨ yv.ownBlock = some q)) hKn (fun g hg => (.inr (.inl hg))) (fun g hg => (.inr (.inr hg))) hgs hgr rfl rfl (by k_ne) rfl (by walk_nrm <;> rfl) fun st1 D1 w2 gv hB hb hk hgs1 hgr1 hl => ?_⟩
  obtain ⟨g0, g1, lg, eg⟩ : ∃ n m, Ls 30 D1 n m w2 gv L ∧ y1 ≤ n := ⟨_, _, hl, hF.2.2.2.2⟩
  have hF2 : (LB st1 D1 W w2 ∧ Ls 3 D1 s0 s1 w2 sv L ∧ Ls 3 D1 x0 x1 w2 xv xs ∧ Ls 3 D1 y0 y1 w2 yv ys ∧ Ls 30 D1 g0 g1 w2 gv L) := ⟨hB, (hF.2.1.below hb).reD (fun g hg => hk g (.inl hg)), (hF.2.2.1.below hb).reD (fun g hg => hk g (.inr (.inl hg))), (hF.2.2.2.1.below hb).reD (fun g hg => hk g (.inr (.inr hg))), lg⟩
  have htag1 := hB.hP.tag
  have hd1 := hB.hP.d
  clear fm hF hl hb lg hKn hk htag hd
  have hF := hF2
  clear hF2 hB
  walk_nrm
  have fm : ∀ {w w₁ : World}, (LB st1 D1 W w ∧ Ls 3 D1 s0 s1 w sv L ∧ Ls 3 D1 x0 x1 w xv xs ∧ Ls 3 D1 y0 y1 w yv ys ∧ Ls 30 D1 g0 g1 w gv L) → ROf 55 st1 w w₁ → (LB st1 D1 W w₁ ∧ Ls 3 D1 s0 s1 w₁ sv L ∧ Ls 3 D1 x0 x1 w₁ xv xs ∧ Ls 3 D1 y0 y1 w₁ yv ys ∧ Ls 30 D1 g0 g1 w₁ gv L) := fun hh rr => at_rely (F := fun w => (LB st1 D1 W w ∧ Ls 3 D1 s0 s1 w sv L ∧ Ls 3 D1 x0 x1 w xv xs ∧ Ls 3 D1 y0 y1 w yv ys ∧ Ls 30 D1 g0 g1 w gv L)) (fun w d h => ⟨h.1.at d, h.2⟩) htag1 hh rr
  refine done_silent (n := 60) htag1 hd1 ?_
  u_op fm hF
  u_op fm hF
  u_op fm hF
  u_op fm hF
  u_op fm hF
  u_c stepG_region_end fm hF
  refine Goes.stop (fun w₁ h₁ => ?_)
  replace hF := fm hF h₁
  clear h₁
  exact ⟨rfl, hN hF.1 hF.2.1 hF.2.2.1 hF.2.2.2.1 hF.2.2.2.2 hL hLM ha ha2 hx hy hgr1 (by omega) eWx esx exy eg vx vy⟩
set_option maxRecDepth 100000 in
set_option maxHeartbeats 16000000 in
theorem law_S2 {u2 u3 u7 u8 u9 u10 u11 u12 u13 u14 u15 u16 u17 u18 u19 u20 u21 u22 u23 u24 u25 u26 u27 u28 u29 u30 u31 u32 u33 u34 u35 u36 u37 u38 u39 u40 u41 u42 u43 u44 u45 u46 u47 u48 u49 u50 u51 u52 u53 u54 u55 u56 u57 u58 u59 u60 u61 u62 u63 u64 u65 u66 u67 u68 u69 u70 u71 u72 u73 u74 u75 u76 u77 u78 u79 u80 u81 u82 u83 u84 u85 u86 u87 u88 u89 u90 u91 u92 u93 u94 u95 u96 u97 u98 u99 u100 u101 u102 u103 u104 u105 u106 u107 u108 u109 u110 u111 u112 u113 : Value} {s0 s1 : Nat} (h : LB st D W w) (ls : Ls 3 D s0 s1 w sv L) (lT : s1 ≤ w.heap.size)(hL : L.length ≤ 1048576) (hLM : lvMove xs ys = (L, bb)) (ha : Rds W W.heap.size .i64 A xs) (ha2 : Rds W W.heap.size .i64 A2 ys) (hx : xs.length ≤ 1048576) (hy : ys.length ≤ 1048576) (hgr : ∀ b, b < W.heap.size → ¬ st.grp b) (hgs8 : st.gs + 8 < 1000) (eWs : W.heap.size ≤ s1)  :
    Done Try.prog 55 (FinL W) st (G (b3.at ⟨#[.slice A xs.length c1, .slice A2 ys.length c2, u2, u3, .bool false, sv, .bool bb, u7, u8, u9, u10, u11, u12, u13, u14, u15, u16, u17, u18, u19, u20, u21, u22, u23, u24, u25, u26, u27, u28, u29, u30, u31, u32, u33, u34, u35, u36, u37, u38, u39, u40, u41, u42, u43, u44, u45, u46, u47, u48, u49, u50, u51, u52, u53, u54, u55, u56, u57, u58, u59, u60, u61, u62, u63, u64, u65, u66, u67, u68, u69, u70, u71, u72, u73, u74, u75, u76, u77, u78, u79, u80, u81, u82, u83, u84, u85, u86, u87, u88, u89, u90, u91, u92, u93, u94, u95, u96, u97, u98, u99, u100, u101, u102, u103, u104, u105, u106, u107, u108, u109, u110, u111, u112, u113], []⟩ [.code (RW 4)]) []) w := by
  have htag := h.hP.tag
  have hd := h.hP.d
  have hF : (LB st D W w ∧ Ls 3 D s0 s1 w sv L ∧ s1 ≤ w.heap.size) := ⟨h, ls, lT⟩
  clear h ls lT
  have hN := @law_S3
  simp only [RW, tls, tl, bodyW, Try.f3, Option.getD_some] at hN ⊢
  have hxm : xs.length ≤ maxLen := by unfold maxLen; omega
  have hym : ys.length ≤ maxLen := by unfold maxLen; omega
  have hlm : L.length ≤ maxLen := by unfold maxLen; omega
  have fm : ∀ {w w₁ : World}, (LB st D W w ∧ Ls 3 D s0 s1 w sv L ∧ s1 ≤ w.heap.size) → ROf 55 st w w₁ → (LB st D W w₁ ∧ Ls 3 D s0 s1 w₁ sv L ∧ s1 ≤ w₁.heap.size) := fun hh rr => at_rely (F := fun w => (LB st D W w ∧ Ls 3 D s0 s1 w sv L ∧ s1 ≤ w.heap.size)) (fun w d h => ⟨h.1.at d, h.2⟩) htag hh rr
  refine done_silent (n := 60) htag hd ?_
  u_c stepG_seq fm hF
  u_reg fm hF
  u_op fm hF
  refine Goes.stop (fun w₁ h₁ => ?_)
  replace hF := fm hF h₁
  clear h₁
  refine ⟨rfl, toInt_step hF.1 ha hx hgr rfl rfl (by k_ne) rfl (by walk_nrm <;> rfl) fun w2 xv hB hb hl => ?_⟩
  obtain ⟨x0, x1, lx, ex, ix, tx⟩ : ∃ n m, Ls 3 D n m w2 xv xs ∧ s1 ≤ n ∧ n ≤ m ∧ m ≤ w2.heap.size := ⟨_, _, hl, hF.2.2, hb.size, Nat.le_refl _⟩
  have hF2 : (LB st D W w2 ∧ Ls 3 D s0 s1 w2 sv L ∧ Ls 3 D x0 x1 w2 xv xs ∧ x1 ≤ w2.heap.size) := ⟨hB, hF.2.1.below hb, lx, tx⟩
  clear fm hF hl hb lx tx
  have hF := hF2
  clear hF2 hB
  walk_nrm
  have fm : ∀ {w w₁ : World}, (LB st D W w ∧ Ls 3 D s0 s1 w sv L ∧ Ls 3 D x0 x1 w xv xs ∧ x1 ≤ w.heap.size) → ROf 55 st w w₁ → (LB st D W w₁ ∧ Ls 3 D s0 s1 w₁ sv L ∧ Ls 3 D x0 x1 w₁ xv xs ∧ x1 ≤ w₁.heap.size) := fun hh rr => at_rely (F := fun w => (LB st D W w ∧ Ls 3 D s0 s1 w sv L ∧ Ls 3 D x0 x1 w xv xs ∧ x1 ≤ w.heap.size)) (fun w d h => ⟨h.1.at d, h.2⟩) htag hh rr
  refine done_silent (n := 60) htag hd ?_
  u_op fm hF
  u_c stepG_region_end fm hF
  u_c stepG_seq fm hF
  u_reg fm hF
  u_op fm hF
  refine Goes.stop (fun w₁ h₁ => ?_)
  replace hF := fm hF h₁
  clear h₁
  refine ⟨rfl, toInt_step hF.1 ha2 hy hgr rfl rfl (by k_ne) rfl (by walk_nrm <;> rfl) fun w2 yv hB hb hl => ?_⟩
  obtain ⟨y0, y1, ly, ey, iy, ty⟩ : ∃ n m, Ls 3 D n m w2 yv ys ∧ x1 ≤ n ∧ n ≤ m ∧ m ≤ w2.heap.size := ⟨_, _, hl, hF.2.2.2, hb.size, Nat.le_refl _⟩
  have hF2 : (LB st D W w2 ∧ Ls 3 D s0 s1 w2 sv L ∧ Ls 3 D x0 x1 w2 xv xs ∧ Ls 3 D y0 y1 w2 yv ys ∧ y1 ≤ w2.heap.size) := ⟨hB, hF.2.1.below hb, hF.2.2.1.below hb, ly, ty⟩
  clear fm hF hl hb ly ty
  have hF := hF2
  clear hF2 hB
  walk_nrm
  have fm : ∀ {w w₁ : World}, (LB st D W w ∧ Ls 3 D s0 s1 w sv L ∧ Ls 3 D x0 x1 w xv xs ∧ Ls 3 D y0 y1 w yv ys ∧ y1 ≤ w.heap.size) → ROf 55 st w w₁ → (LB st D W w₁ ∧ Ls 3 D s0 s1 w₁ sv L ∧ Ls 3 D x0 x1 w₁ xv xs ∧ Ls 3 D y0 y1 w₁ yv ys ∧ y1 ≤ w₁.heap.size) := fun hh rr => at_rely (F := fun w => (LB st D W w ∧ Ls 3 D s0 s1 w sv L ∧ Ls 3 D x0 x1 w xv xs ∧ Ls 3 D y0 y1 w yv ys ∧ y1 ≤ w.heap.size)) (fun w d h => ⟨h.1.at d, h.2⟩) htag hh rr
  refine done_silent (n := 60) htag hd ?_
  u_op fm hF
  u_c stepG_region_end fm hF
  refine Goes.stop (fun w₁ h₁ => ?_)
  replace hF := fm hF h₁
  clear h₁
  exact ⟨rfl, hN hF.1 hF.2.1 hF.2.2.1 hF.2.2.2.1 hF.2.2.2.2 hL hLM ha ha2 hx hy hgr hgs8 (by omega) ex ey ix iy⟩
set_option maxRecDepth 100000 in
set_option maxHeartbeats 16000000 in
theorem law_S1 (h : LB st D W w) (lT : W.heap.size ≤ w.heap.size)(hL : L.length ≤ 1048576) (hLM : lvMove xs ys = (L, bb)) (ha : Rds W W.heap.size .i64 A xs) (ha2 : Rds W W.heap.size .i64 A2 ys) (hx : xs.length ≤ 1048576) (hy : ys.length ≤ 1048576) (hgr : ∀ b, b < W.heap.size → ¬ st.grp b) (hgs8 : st.gs + 8 < 1000)  :
    Done Try.prog 55 (FinL W) st (G (b3.at ⟨#[.slice A xs.length c1, .slice A2 ys.length c2, undef, undef, undef, undef, undef, undef, undef, undef, undef, undef, undef, undef, undef, undef, undef, undef, undef, undef, undef, undef, undef, undef, undef, undef, undef, undef, undef, undef, undef, undef, undef, undef, undef, undef, undef, undef, undef, undef, undef, undef, undef, undef, undef, undef, undef, undef, undef, undef, undef, undef, undef, undef, undef, undef, undef, undef, undef, undef, undef, undef, undef, undef, undef, undef, undef, undef, undef, undef, undef, undef, undef, undef, undef, undef, undef, undef, undef, undef, undef, undef, undef, undef, undef, undef, undef, undef, undef, undef, undef, undef, undef, undef, undef, undef, undef, undef, undef, undef, undef, undef, undef, undef, undef, undef, undef, undef, undef, undef, undef, undef, undef, undef], []⟩ [.code (RW 0)]) []) w := by
  have htag := h.hP.tag
  have hd := h.hP.d
  have hF : (LB st D W w ∧ W.heap.size ≤ w.heap.size) := ⟨h, lT⟩
  clear h lT
  have hN := @law_S2
  simp only [RW, tls, tl, bodyW, Try.f3, Option.getD_some] at hN ⊢
  have hxm : xs.length ≤ maxLen := by unfold maxLen; omega
  have hym : ys.length ≤ maxLen := by unfold maxLen; omega
  have hlm : L.length ≤ maxLen := by unfold maxLen; omega
  have h1' : ((1048576 : Int) < (xs.length : Int)) = False := eq_false (by omega)
  have h2' : ((1048576 : Int) < (ys.length : Int)) = False := eq_false (by omega)
  have fm : ∀ {w w₁ : World}, (LB st D W w ∧ W.heap.size ≤ w.heap.size) → ROf 55 st w w₁ → (LB st D W w₁ ∧ W.heap.size ≤ w₁.heap.size) := fun hh rr => at_rely (F := fun w => (LB st D W w ∧ W.heap.size ≤ w.heap.size)) (fun w d h => ⟨h.1.at d, h.2⟩) htag hh rr
  refine done_silent (n := 60) htag hd ?_
  u_c stepG_seq fm hF
  u_reg fm hF
  u_op fm hF
  u_c stepG_region_end fm hF
  u_c stepG_seq fm hF
  u_c stepG_seq fm hF
  u_reg fm hF
  u_op fm hF
  u_op fm hF
  u_op fm hF
  u_c stepG_region_end fm hF
  u_cond false fm hF
  u_c stepG_skip fm hF
  u_c stepG_seq fm hF
  u_c stepG_seq fm hF
  u_reg fm hF
  u_op fm hF
  u_op fm hF
  u_op fm hF
  u_c stepG_region_end fm hF
  u_cond false fm hF
  u_c stepG_skip fm hF
  u_c stepG_seq fm hF
  u_reg fm hF
  u_op fm hF
  refine Goes.stop (fun w₁ h₁ => ?_)
  replace hF := fm hF h₁
  clear h₁
  refine ⟨rfl, toInt_step hF.1 ha hx hgr rfl rfl (by k_ne) rfl (by walk_nrm <;> rfl) fun w2 pv hB hb hl => ?_⟩
  obtain ⟨p0, p1, lp⟩ : ∃ n m, Ls 3 D n m w2 pv xs := ⟨_, _, hl⟩
  have hF2 : (LB st D W w2 ∧ W.heap.size ≤ w2.heap.size ∧ Ls 3 D p0 p1 w2 pv xs) := ⟨hB, Nat.le_trans hF.2 hb.size, lp⟩
  clear fm hF hl hb lp
  have hF := hF2
  clear hF2 hB
  walk_nrm
  have fm : ∀ {w w₁ : World}, (LB st D W w ∧ W.heap.size ≤ w.heap.size ∧ Ls 3 D p0 p1 w pv xs) → ROf 55 st w w₁ → (LB st D W w₁ ∧ W.heap.size ≤ w₁.heap.size ∧ Ls 3 D p0 p1 w₁ pv xs) := fun hh rr => at_rely (F := fun w => (LB st D W w ∧ W.heap.size ≤ w.heap.size ∧ Ls 3 D p0 p1 w pv xs)) (fun w d h => ⟨h.1.at d, h.2⟩) htag hh rr
  refine done_silent (n := 60) htag hd ?_
  u_op fm hF
  refine Goes.stop (fun w₁ h₁ => ?_)
  replace hF := fm hF h₁
  clear h₁
  refine ⟨rfl, toInt_step hF.1 ha2 hy hgr rfl rfl (by k_ne) rfl (by walk_nrm <;> rfl) fun w2 qv hB hb hl => ?_⟩
  obtain ⟨q0, q1, lq⟩ : ∃ n m, Ls 3 D n m w2 qv ys := ⟨_, _, hl⟩
  have hF2 : (LB st D W w2 ∧ W.heap.size ≤ w2.heap.size ∧ Ls 3 D p0 p1 w2 pv xs ∧ Ls 3 D q0 q1 w2 qv ys) := ⟨hB, Nat.le_trans hF.2.1 hb.size, hF.2.2.below hb, lq⟩
  clear fm hF hl hb lq
  have hF := hF2
  clear hF2 hB
  walk_nrm
  have fm : ∀ {w w₁ : World}, (LB st D W w ∧ W.heap.size ≤ w.heap.size ∧ Ls 3 D p0 p1 w pv xs ∧ Ls 3 D q0 q1 w qv ys) → ROf 55 st w w₁ → (LB st D W w₁ ∧ W.heap.size ≤ w₁.heap.size ∧ Ls 3 D p0 p1 w₁ pv xs ∧ Ls 3 D q0 q1 w₁ qv ys) := fun hh rr => at_rely (F := fun w => (LB st D W w ∧ W.heap.size ≤ w.heap.size ∧ Ls 3 D p0 p1 w pv xs ∧ Ls 3 D q0 q1 w qv ys)) (fun w d h => ⟨h.1.at d, h.2⟩) htag hh rr
  refine done_silent (n := 60) htag hd ?_

  refine Goes.stop (fun w₁ h₁ => ?_)
  replace hF := fm hF h₁
  clear h₁
  refine ⟨rfl, model_step hLM hF.1 hF.2.2.1 hF.2.2.2 hxm hym rfl rfl (by k_ne) rfl (by walk_nrm <;> rfl) fun w2 sv hB hb hl => ?_⟩
  obtain ⟨s0, s1, ls, es, is, ts⟩ : ∃ n m, Ls 3 D n m w2 sv L ∧ W.heap.size ≤ n ∧ n ≤ m ∧ m ≤ w2.heap.size := ⟨_, _, hl, hF.2.1, hb.size, Nat.le_refl _⟩
  have hF2 : (LB st D W w2 ∧ Ls 3 D p0 p1 w2 pv xs ∧ Ls 3 D q0 q1 w2 qv ys ∧ Ls 3 D s0 s1 w2 sv L ∧ s1 ≤ w2.heap.size) := ⟨hB, hF.2.2.1.below hb, hF.2.2.2.below hb, ls, ts⟩
  clear fm hF hl hb ls ts
  have hF := hF2
  clear hF2 hB
  walk_nrm
  have fm : ∀ {w w₁ : World}, (LB st D W w ∧ Ls 3 D p0 p1 w pv xs ∧ Ls 3 D q0 q1 w qv ys ∧ Ls 3 D s0 s1 w sv L ∧ s1 ≤ w.heap.size) → ROf 55 st w w₁ → (LB st D W w₁ ∧ Ls 3 D p0 p1 w₁ pv xs ∧ Ls 3 D q0 q1 w₁ qv ys ∧ Ls 3 D s0 s1 w₁ sv L ∧ s1 ≤ w₁.heap.size) := fun hh rr => at_rely (F := fun w => (LB st D W w ∧ Ls 3 D p0 p1 w pv xs ∧ Ls 3 D q0 q1 w qv ys ∧ Ls 3 D s0 s1 w sv L ∧ s1 ≤ w.heap.size)) (fun w d h => ⟨h.1.at d, h.2⟩) htag hh rr
  refine done_silent (n := 60) htag hd ?_
  u_op fm hF
  u_op fm hF
  u_op fm hF
  u_op fm hF
  u_op fm hF
  u_c stepG_region_end fm hF
  refine Goes.stop (fun w₁ h₁ => ?_)
  replace hF := fm hF h₁
  clear h₁
  exact ⟨rfl, hN hF.1 hF.2.2.2.1 hF.2.2.2.2 hL hLM ha ha2 hx hy hgr hgs8 (by omega)⟩
end

end Go.Proofs.Ytiodikflmijhkaa