/- Joined texts: G5 G6 G7 G8. -/
import Derived.Test.YtiodikflmijhkaaGreatDoorJ23
import Derived.Conc.CompanyDraw
import Derived.Test.YtiodikflmijhkaaGreatDoorJ21
import Derived.Conc.AppendEvents3
import Derived.Laws.Tables
section
set_option linter.unusedSectionVars false
set_option linter.unusedVariables false
set_option linter.unusedSimpArgs false
namespace Go.Proofs.YtiodikflmijhkaaGreatDoor
open Go.Conc Go.ConcN Go.RowKit Go.Conc.Lib Go.ConcR.Gen Go.ConcN.Gen Farm
open Go.ConcR (KK wgBlock WgAt stA smA rd wr mk Payload Aside2 DC0)

theorem nmPl : (Tryz.f82.name == "runtime.NumGoroutine") = false := by kernel_rfl
theorem nmSR : (Tryz.f42.name == "runtime.NumGoroutine") = false := by kernel_rfl
theorem loudS : ((Tryz.prog).funcs[bS.fn]?).any (·.norace) = false := by kernel_rfl

/-- What is sent from a row's column. -/
def sentv (Lv Lp : List Int) (rw j : Nat) : Value := .agg #[.int .i64 (Lv.getD (4 * j + rw) 0), .int .i64 (Lp.getD (4 * j + rw) 0)]
def sents (Lv Lp : List Int) (rw k r : Nat) : List Value := (List.range r).map fun j => sentv Lv Lp rw (k + j)
theorem sents_succ (Lv Lp : List Int) (rw k r : Nat) : sents Lv Lp rw k (r + 1) = sentv Lv Lp rw k :: sents Lv Lp rw (k + 1) r := by
  simp only [sents, List.range_succ_eq_map, List.map_cons, List.map_map, Nat.add_zero]
  congr 1
  apply List.map_congr_left
  intro j _
  simp only [Function.comp_apply]
  congr 1
  omega

theorem sched_S (b : Bool) (t : Nat) : ∃ m t', Region.schedule b opsS t = Region.linearise.go m opsS 9 t' #[false, false, false, false, false, false, false, false, false] [] := by
  unfold Region.schedule
  split
  · exact ⟨.any, t, rfl⟩
  · exact ⟨_, t / 2, rfl⟩

/-- The head of sendRow's loop, at column k. -/
structure SH (Cv Cp c : Nat) (rw k : Nat) (T : Array Value) : Prop where
  size : T.size = 26
  t1 : T[1]? = some (.int .i64 (rw : Int))
  t3 : T[3]? = some (.chan (some c))
  t4 : T[4]? = some (.pointer (some ⟨Cv, 0, none⟩))
  t6 : T[6]? = some (.pointer (some ⟨Cp, 0, none⟩))
  t10 : T[10]? = some (.int .i64 (k : Int))

section
variable {S O : Nat → Prop} {wg Cv Cp c : Nat} {Lv Lp : List Int} {rw : Nat} {cs : List Frame} {T : Array Value} {w : World}

abbrev KRK (S : Nat → Prop) (wg : Nat) := RK 71 wg S
/-- Its next stop. -/
abbrev KNext (S O : Nat → Prop) (wg c : Nat) (N : Nat) (ss : List Value) (g : Goroutine) (w : World) : Prop := g.status = .running ∧ KStop Tryz.prog 71 wg c (Wk Tryz.prog 71 wg c N) O S ss g w

set_option maxRecDepth 100000 in
set_option maxHeartbeats 8000000 in
theorem sendLoop (hLv : Lv.length = 24) (hLp : Lp.length = 24) (hrw : rw < 4)
    (hend : ∀ T w, SH Cv Cp c rw 6 T → KB S 71 wg Cv Cp Lv Lp w → Goes Tryz.prog false (KRK S wg) (DK S) (KNext S O wg c 0 []) 20 (G (bS.at ⟨T, []⟩ [.code LS, .inLoop LS, .inBlock 0, .code RS]) cs) w) :
    ∀ (r k : Nat), k + r = 6 → ∀ T w, SH Cv Cp c rw k T → KB S 71 wg Cv Cp Lv Lp w → Goes Tryz.prog false (KRK S wg) (DK S) (KNext S O wg c r (sents Lv Lp rw k r)) 80 (G (bS.at ⟨T, []⟩ [.code LS, .inLoop LS, .inBlock 0, .code RS]) cs) w := by
  intro r
  induction r with
  | zero =>
    intro k hk T w hT hK
    obtain rfl : k = 6 := by omega
    exact (hend T w hT hK).mono (by omega)
  | succ r ih =>
    intro k hk T w hT hF
    obtain ⟨hs, t1, t3, t4, t6, t10⟩ := hT
    obtain ⟨v0, v1, v2, v3, v4, v5, v6, v7, v8, v9, v10, v11, v12, v13, v14, v15, v16, v17, v18, v19, v20, v21, v22, v23, v24, v25, rfl⟩ := array26 T hs
    simp only [List.getElem?_toArray, List.getElem?_cons_succ, List.getElem?_cons_zero, Option.some.injEq] at t1 t3 t4 t6 t10
    subst t1 t3 t4 t6 t10
    clear hs
    have hk6 : k < 6 := by omega
    have hlt : ((k : Int) < 6) = True := eq_true (by omega)
    have hpl : IntKind.i64.wrap (IntKind.i64.wrap ((k : Int) * 4) + (rw : Int)) = ((4 * k + rw : Nat) : Int) := by
      rw [wrap_i64_of ((k : Int) * 4) (by omega) (by omega), wrap_i64_of _ (by omega) (by omega)]; omega
    have hR6 := R6
    refine (goes_join (n := 60) (m := 11) dk_nil (RK.refl) ?_ : Goes Tryz.prog false (KRK S wg) (DK S) _ (60 + 11) _ w).mono (by omega)
    simp only [LS, bodyS, Tryz.f42, Option.getD_some]
    u_c stepG_seq kb_rely hF
    u_reg kb_rely hF
    u_op kb_rely hF
    u_c stepG_region_end kb_rely hF
    u_c stepG_seq kb_rely hF
    u_cond true kb_rely hF
    u_c stepG_skip kb_rely hF
    u_c stepG_seq kb_rely hF
    u_c stepG_block kb_rely hF
    u_c stepG_seq kb_rely hF
    u_reg kb_rely hF
    u_op kb_rely hF
    u_op kb_rely hF
    u_c stepG_region_end kb_rely hF
    u_c stepG_seq kb_rely hF
    u_reg kb_rely hF
    u_op kb_rely hF
    u_op kb_rely hF
    u_call Tryz.func82 nmPl Tryz.f82 kb_rely hF
    u_c stepG_seq kb_rely hF
    u_reg kb_rely hF
    u_op kb_rely hF
    u_c stepG_region_end kb_rely hF
    u_c stepG_seq kb_rely hF
    u_reg kb_rely hF
    u_op kb_rely hF
    u_op kb_rely hF
    u_op kb_rely hF
    u_op kb_rely hF
    u_op kb_rely hF
    u_c stepG_region_end kb_rely hF
    u_c stepG_ret' kb_rely hF
    u_leave1 Tryz.func82 kb_rely hF
    u_op kb_rely hF
    u_c stepG_region_end kb_rely hF
    refine Goes.stop (fun w₁ h₁ => ?_)
    replace hF := kb_rely hF h₁
    clear h₁
    -- THE DRAW
    refine Goes.step rfl (fun w₂ h₂ => ?_)
    replace hF := kb_rely hF h₂
    clear h₂
    rw [stepG_region_draw]
    simp only [goes_go]
    refine ⟨⟨⟨w₂.drawn + 1, rfl⟩, by simp⟩, ?_⟩
    obtain ⟨m, t', hsch⟩ := sched_S ((Tryz.prog).follows .mixedOrders) (w₂.tape w₂.drawn (.order bS.fn 5))
    change Goes Tryz.prog false (KRK S wg) (DK S) (KNext S O wg c (r + 1) (sents Lv Lp rw k (r + 1))) 10 (G (bS.at ⟨_, []⟩ (.inRegion opsS (Region.schedule ((Tryz.prog).follows .mixedOrders) opsS (w₂.tape w₂.drawn (.order bS.fn 5))) :: [.inBlock 1, .code R6, .inLoop LS, .inBlock 0, .code RS])) cs) _
    rw [hsch]
    refine (goes_mono (fun g w hst => ?_) (drawn_run (kk := [.inBlock 1, .code R6, .inLoop LS, .inBlock 0, .code RS]) (cs := cs) (c := c) (row := (rw : Int)) (k := k) (pl := 4 * k + rw) m (by omega) hLv hLp rfl rfl 9 9 t' false false false false false false false false false _ _ rfl (Nat.le_refl _) rfl
      ⟨by simp, by simp, by simp, by simp, by simp, by simp, by simp, fun h => (by cases h), fun h => (by cases h), fun h => (by cases h), fun h => (by cases h), fun h => (by cases h), fun h => (by cases h), fun h => (by cases h), fun h => (by cases h), fun h => (by cases h), fun h => (by cases h), fun h => (by cases h), fun h => (by cases h), fun h => (by cases h)⟩ (kb_rely hF (RK.at w₂ (w₂.drawn + 1))))).mono (by omega)
    clear hsch hF
    obtain ⟨T, hD, rfl, hF⟩ := hst
    have ho : opsS[8]?.map (fun o => (o.op, o.dst, o.guard)) = some (.send (.tmp 16) (.tmp 23), none, none) := rfl
    obtain ⟨o, ho1, ho2⟩ := Option.map_eq_some_iff.1 ho
    simp only [Prod.mk.injEq] at ho2
    obtain ⟨e1, e2, e3⟩ := ho2
    have hwt : Region.wanted o (yielded opsS (⟨T, []⟩ : Act).tmps) = true := by unfold Region.wanted; rw [e3]
    have he : execOp (⟨T, []⟩ : Act).eval o = pure (.comm #[scase c (sentv Lv Lp rw k) (.tuple #[])] true .send) := by
      unfold execOp
      simp only [e1, evalT (hD.d0 rfl), evalT (hD.d7 rfl)]
      rfl
    refine ⟨rfl, .send (sentv Lv Lp rw k) (.tuple #[]) (sents Lv Lp rw (k + 1) r) _ _ (sents_succ Lv Lp rw k r) (stepG_comm ho1 hwt (by k_ne) (by rw [he]; rfl)) (fun e hm => ?_) ?_⟩
    · have := mem_listed hm
      rw [he] at this
      simp [go_sem] at this
    refine ⟨20 + 80, goes_join (n := 20) (m := 80) dk_nil (RK.refl) ?_⟩
    have hfin : Conc.served (G (bS.at ⟨T, []⟩ (.inRegion opsS [8] :: [.inBlock 1, .code R6, .inLoop LS, .inBlock 0, .code RS])) cs) undef = G (bS.at ⟨T, []⟩ (.inRegion opsS [] :: [.inBlock 1, .code R6, .inLoop LS, .inBlock 0, .code RS])) cs := rfl
    rw [hfin]
    clear hfin he hwt e1 e2 e3 ho ho1
    have hs := hD.size
    have t1 := hD.t1
    have t3 := hD.t3
    have t4 := hD.t4
    have t6 := hD.t6
    have t10 := hD.t10
    clear hD
    obtain ⟨u0, u1, u2, u3, u4, u5, u6, u7, u8, u9, u10, u11, u12, u13, u14, u15, u16, u17, u18, u19, u20, u21, u22, u23, u24, u25, rfl⟩ := array26 T hs
    simp only [List.getElem?_toArray, List.getElem?_cons_succ, List.getElem?_cons_zero, Option.some.injEq] at t1 t3 t4 t6 t10
    subst t1 t3 t4 t6 t10
    have hwr : IntKind.i64.wrap ((k : Int) + 1) = (k : Int) + 1 := wrap_i64_of _ (by omega) (by omega)
    have ihk := ih (k + 1) (by omega)
    clear ih
    simp only [R6, LS, RS, bodyS, Tryz.f42, Option.getD_some] at ihk ⊢
    u_c stepG_region_end kb_rely hF
    u_c stepG_inBlock kb_rely hF
    u_reg kb_rely hF
    u_op kb_rely hF
    u_op kb_rely hF
    u_c stepG_region_end kb_rely hF
    u_c stepG_inLoop kb_rely hF
    refine Goes.stop (fun w₃ h₃ => ?_)
    exact ihk _ _ ⟨by simp, by simp, by simp, by simp, by simp, by simp⟩ (kb_rely hF h₃)
end

end Go.Proofs.YtiodikflmijhkaaGreatDoor
end

section
set_option linter.unusedSectionVars false
set_option linter.unusedVariables false
set_option linter.unusedSimpArgs false
namespace Go.Proofs.YtiodikflmijhkaaGreatDoor
open Go.Conc Go.ConcN Go.RowKit Go.Conc.Lib Go.ConcR.Gen Go.ConcN.Gen Farm
open Go.ConcR (KK wgBlock WgAt stA smA rd wr mk Payload Aside2 DC0)

abbrev b21 : Frame := baseD 40
noncomputable def bot : Frame := { (default : Frame) with fn := (Tryz.prog).funcs.size, defers := [], mode := .panicking [goexitEntry] }
noncomputable def body21 : Code := Tryz.f40.body.getD .skip
noncomputable def ops21 : Array Oper := match body21 with | .seq _ (.region _ ops _) => ops | _ => #[]
noncomputable def ops7 : Array Oper := match RS with | .region _ ops _ => ops | _ => #[]
def dDone (wg : Nat) : Deferred := dcall 41 #[.pointer (some ⟨wg, 0, none⟩)]
noncomputable def cs21 (wg : Nat) (T1 : Array Value) : List Frame := [b21.at ⟨T1, [dDone wg]⟩ [.inRegion ops21 [4]], bot]

theorem quitsTail (T : Array Value) : QuitsD Tryz.prog 2 0 (G { b21.at ⟨T, []⟩ [] with mode := .returning } [bot]) := by
  refine QuitsD.ctl (g' := G bot []) rfl (fun w => ?_) ?_
  · simp [G, stepG, unwind, doReturn, results, Frame.at, b21, baseD, bot, Tryz.func40, Tryz.f40, seen, GStep.after, goexitEntry]
  refine QuitsD.ctl (g' := { G bot [] with status := .finished }) rfl (fun w => ?_) ⟨rfl, rfl⟩
  simp [G, stepG, unwind, bot, goexitEntry, Frame.catches]
  rfl

section
variable {S O : Nat → Prop} {wg Cv Cp c : Nat} {Lv Lp : List Int} {rw : Nat} {T : Array Value} {w : World}

set_option maxRecDepth 100000 in
set_option maxHeartbeats 8000000 in
theorem behindClose {v : Value} (T' T1 : Array Value) (w : World) (hK : WgLive 71 wg w ∧ Has Cv 0 v w) :
    Goes Tryz.prog false (RW 71 wg Cv 24 0 0) (DWs wg No No Cv 24 1) (AtR0 Tryz.prog 71 wg Cv 24 0 1 v) 29 (G (bS.at ⟨T', []⟩ [.inRegion ops7 []]) (cs21 wg T1)) w := by
  have hA := @doneN payV lnk Tryz.prog wgL No No wg Cv 24 0 1 v
  simp only [body_done, doneFn, Option.getD_some] at hA
  simp only [cs21]
  u_c stepG_region_end kn_rely hK
  u_c stepG_end kn_rely hK
  u_leave0 Tryz.func42 kn_rely hK
  u_c stepG_region_end kn_rely hK
  u_c stepG_end kn_rely hK
  u_in kn_rely hK
  rw [stepG_unwind_enter rfl wgL.f_done (nm_done lnk) rfl]
  simp only [goes_go]
  refine ⟨by u_nil, ?_⟩
  walk_nrmf doneFn
  exact hA rfl (quitsTail _) _ hK

set_option maxRecDepth 100000 in
set_option maxHeartbeats 8000000 in
theorem atEnd (hLv : Lv.length = 24) (hO : O Cv) (T1 : Array Value) : ∀ T w, SH Cv Cp c rw 6 T → KB S 71 wg Cv Cp Lv Lp w → Goes Tryz.prog false (KRK S wg) (DK S) (KNext S O wg c 0 []) 20 (G (bS.at ⟨T, []⟩ [.code LS, .inLoop LS, .inBlock 0, .code RS]) (cs21 wg T1)) w := by
  intro T w hT hF
  obtain ⟨hs, t1, t3, t4, t6, t10⟩ := hT
  obtain ⟨v0, v1, v2, v3, v4, v5, v6, v7, v8, v9, v10, v11, v12, v13, v14, v15, v16, v17, v18, v19, v20, v21, v22, v23, v24, v25, rfl⟩ := array26 T hs
  simp only [List.getElem?_toArray, List.getElem?_cons_succ, List.getElem?_cons_zero, Option.some.injEq] at t1 t3 t4 t6 t10
  subst t1 t3 t4 t6 t10
  refine (goes_join (n := 18) (m := 0) dk_nil (RK.refl) ?_ : Goes Tryz.prog false (KRK S wg) (DK S) _ (18 + 0) _ w).mono (by omega)
  simp only [LS, RS, bodyS, Tryz.f42, Option.getD_some]
  u_c stepG_seq kb_rely hF
  u_reg kb_rely hF
  u_op kb_rely hF
  u_c stepG_region_end kb_rely hF
  u_c stepG_seq kb_rely hF
  u_cond false kb_rely hF
  u_exit kb_rely hF
  u_reg kb_rely hF
  u_op kb_rely hF
  refine Goes.stop (fun w₁ h₁ => Goes.stop fun w₂ h₂ => ?_)
  replace hF := kb_rely (kb_rely hF h₁) h₂
  clear h₁ h₂
  refine ⟨rfl, .close _ Cv 24 29 (.int .i64 (Lv.getD 0 0)) rfl hO ?_ ?_ ⟨VL Lv, hF.v, by rw [VL_size, hLv]⟩ (fun buf s r hc => stepG_close rfl rfl (by k_ne) rfl rfl hc loudS) ?_⟩
  · rfl
  · rfl
  · exact behindClose _ T1 w₂ ⟨hF.live, VL_at Lv (by omega) hF.v⟩
end

end Go.Proofs.YtiodikflmijhkaaGreatDoor
end

section
set_option linter.unusedSectionVars false
set_option linter.unusedVariables false
namespace Go.Proofs.YtiodikflmijhkaaGreatDoor.Farm
open Go Go.Conc Go.ConcN Go.RowKit

/-- It touches cells of block b alone. -/
def InB (b : Nat) (e : Event) : Prop := ∃ ad, e.loc = .cell ad ∧ ad.block = b
def RdB (b : Nat) (e : Event) : Prop := InB b e ∧ e.write = false

theorem goes_ex {P : Program} {main : Bool} {g g' : Goroutine} {w w' : World} {K : Goroutine → World → Array Event → Prop} {Pr : Array Event → Prop} (h : ∃ es, stepG P main g w = .go g' w' es ∧ Pr es) (k : ∀ es, Pr es → K g' w' es) : (stepG P main g w).goes K := by
  obtain ⟨es, h1, h2⟩ := h
  rw [h1]
  exact k es h2

section
variable {P : Program} {main : Bool} {b : Frame} {a : Act} {k : List Item} {cs : List Frame} {w : World} {ops : Array Oper} {i : Nat} {rest : List Nat} {o : Oper}

theorem listed_nil {fn : FuncId} (h : (execOp a.eval o).events P w #[] = #[]) : listed P fn a o w = #[] := by unfold listed; rw [h, seen_none]

theorem stepG_box {t : TypeId} {x : Operand} (ho : ops[i]? = some o) (hw : Region.wanted o (yielded ops a.tmps) = true) (hk : b.kind ≠ .early) (hop : o.op = .box t x) :
    stepG P main (G (b.at a (.inRegion ops (i :: rest) :: k)) cs) w = .go (G (b.at (a.put o.dst (.pointer (some ⟨w.heap.size, 0, none⟩))) (.inRegion ops rest :: k)) cs) (w.alloc (.cells (a.eval x).cells t)) #[] := by
  have he : execOp a.eval o = (do pure (.value (← Instr.box t (a.eval x))) : Sem Next) := by unfold execOp; simp only [hop]
  rw [stepG_value ho hw hk (v := .pointer (some ⟨w.heap.size, 0, none⟩)) (w' := w.alloc (.cells (a.eval x).cells t)) (by rw [he]; rfl), listed_nil (by rw [he]; rfl)]

theorem stepG_alloc {t : TypeId} {z : Value} (ho : ops[i]? = some o) (hw : Region.wanted o (yielded ops a.tmps) = true) (hk : b.kind ≠ .early) (hop : o.op = .alloc t) (hz : ∀ w, (zeroValue t).run P w = .ok z w) :
    stepG P main (G (b.at a (.inRegion ops (i :: rest) :: k)) cs) w = .go (G (b.at (a.put o.dst (.pointer (some ⟨w.heap.size, 0, none⟩))) (.inRegion ops rest :: k)) cs) (w.alloc (.cells z.cells t)) #[] := by
  have he : execOp a.eval o = (do pure (.value (← Instr.alloc t true (.tuple #[]))) : Sem Next) := by unfold execOp; simp only [hop]
  have h1 : (Instr.alloc t true (.tuple #[])).run P w = .ok (.pointer (some ⟨w.heap.size, 0, none⟩)) (w.alloc (.cells z.cells t)) := by
    unfold Instr.alloc
    rw [Sem.run_bind, hz]
    rfl
  have h2 : (Instr.alloc t true (.tuple #[])).events P w #[] = #[] := by
    unfold Instr.alloc
    rw [Sem.events_bind, hz]
    simp only [events_zeroValue]
    rfl
  rw [stepG_value ho hw hk (v := .pointer (some ⟨w.heap.size, 0, none⟩)) (w' := w.alloc (.cells z.cells t)) (by rw [he, Sem.run_bind, h1]; rfl), listed_nil (by rw [he, Sem.events_bind, h1]; simp only [h2]; rfl)]

theorem add00 (g n : Nat) : (⟨g, 0, none⟩ : Addr).add n = ⟨g, n, none⟩ := by
  unfold Addr.add
  split
  · subst_vars; rfl
  · simp
theorem loadCells_in (g : Nat) (vs : Array Value) (t : TypeId) (hg : w.heap[g]? = some (.cells vs t)) (n : Nat) (hn : n ≤ vs.size) : ∀ e ∈ (loadCells ⟨g, 0, none⟩ n).events P w #[], RdB g e := by
  intro e he
  rcases events_loadCellsFrom_at ⟨g, 0, none⟩ (fun x => x = g) rfl n 0 #[] w #[] (fun j hj => by
    rw [add00]
    simp [World.cell?, hg]
    omega) e he with h | ⟨ad, h1, h2, h3⟩
  · simp at h
  · exact ⟨⟨ad, h1, h3⟩, h2⟩

/-- A whole row is read. -/
theorem stepG_loadR {t ty : TypeId} {x : Operand} {g : Nat} {vs : Array Value} {d : TypeDesc} (ho : ops[i]? = some o) (hw : Region.wanted o (yielded ops a.tmps) = true) (hk : b.kind ≠ .early) (hop : o.op = .load ty x) (hx : a.eval x = .pointer (some ⟨g, 0, none⟩))
    (hg : w.heap[g]? = some (.cells vs t)) (hu : P.underlying ty = some d) (hd : (match d with | .struct _ | .array _ _ => true | _ => false) = true) (hi : (P.info? ty).map (·.size) = some vs.size) (hag : ∀ w, (isAgg ty).run P w = .ok true w) (hso : ∀ w, (sizeOf ty).run P w = .ok vs.size w) :
    ∃ es, stepG P main (G (b.at a (.inRegion ops (i :: rest) :: k)) cs) w = .go (G (b.at (a.put o.dst (.agg vs)) (.inRegion ops rest :: k)) cs) w es ∧ ∀ e ∈ es, RdB g e := by
  have he : execOp a.eval o = (do pure (.value (← loadVar ty ⟨g, 0, none⟩)) : Sem Next) := by unfold execOp; simp only [hop, hx]; rfl
  have hr := run_loadVar_row (P := P) w g t ty vs (0, 0) d hg hu hd hi
  refine ⟨_, stepG_value ho hw hk (by rw [he, Sem.run_bind, hr]; rfl), fun e hm => ?_⟩
  have hm := mem_listed hm
  rw [he, Sem.events_bind, hr] at hm
  have h2 : e ∈ (loadVar ty ⟨g, 0, none⟩).events P w #[] := hm
  unfold loadVar at h2
  rw [Sem.events_bind] at h2
  rw [hag] at h2
  simp only [events_isAgg] at h2
  replace h2 : e ∈ (sizeOf ty >>= fun n => loadCells ⟨g, 0, none⟩ n >>= fun cs => (pure (.agg cs) : Sem Value)).events P w #[] := h2
  rw [Sem.events_bind, hso] at h2
  simp only [events_sizeOf] at h2
  replace h2 : e ∈ (loadCells ⟨g, 0, none⟩ vs.size >>= fun cs => (pure (.agg cs) : Sem Value)).events P w #[] := h2
  rw [Sem.events_bind] at h2
  cases hl : (loadCells ⟨g, 0, none⟩ vs.size).run P w with
  | halt hh w' => rw [hl] at h2; exact loadCells_in g vs t hg _ (Nat.le_refl _) e h2
  | ok cs' w' => rw [hl] at h2; exact loadCells_in g vs t hg _ (Nat.le_refl _) e h2

/-- One cell is read. -/
theorem stepG_load1 {ty : TypeId} {x : Operand} {ad : Addr} {v : Value} (ho : ops[i]? = some o) (hw : Region.wanted o (yielded ops a.tmps) = true) (hk : b.kind ≠ .early) (hop : o.op = .load ty x) (hx : a.eval x = .pointer (some ad))
    (hc : w.cell? ad = some v) (hs : ∀ w, (isAgg ty).run P w = .ok false w) :
    ∃ es, stepG P main (G (b.at a (.inRegion ops (i :: rest) :: k)) cs) w = .go (G (b.at (a.put o.dst v) (.inRegion ops rest :: k)) cs) w es ∧ ∀ e ∈ es, RdB ad.block e := by
  have he : execOp a.eval o = (do pure (.value (← loadVar ty ad)) : Sem Next) := by unfold execOp; simp only [hop, hx]; rfl
  have hl : (load ad).run P w = .ok v w := by simp [hc]
  have hr : (loadVar ty ad).run P w = .ok v w := by
    unfold loadVar
    rw [Sem.run_bind, hs]
    exact hl
  refine ⟨_, stepG_value ho hw hk (by rw [he, Sem.run_bind, hr]; rfl), fun e hm => ?_⟩
  have hm := mem_listed hm
  rw [he, Sem.events_bind, hr] at hm
  have h2 : e ∈ (loadVar ty ad).events P w #[] := hm
  unfold loadVar at h2
  rw [Sem.events_bind, hs] at h2
  simp only [events_isAgg] at h2
  have h2 : e ∈ (load ad).events P w #[] := h2
  rcases events_load_at w ad .plain #[] hc e h2 with h | ⟨h1, h3⟩
  · simp at h
  · exact ⟨⟨ad, h1, rfl⟩, h3⟩

/-- One cell is written. -/
theorem stepG_store1 {ty : TypeId} {x y : Operand} {ad : Addr} {v u : Value} (ho : ops[i]? = some o) (hw : Region.wanted o (yielded ops a.tmps) = true) (hk : b.kind ≠ .early) (hop : o.op = .store ty x y) (hx : a.eval x = .pointer (some ad)) (hy : a.eval y = v)
    (hv : v.oneCell' = true) (hc : w.cell? ad = some u) (hz : w.frozen? ad = false) (hs : ∀ w, (sizeOf ty).run P w = .ok 1 w) :
    ∃ es, stepG P main (G (b.at a (.inRegion ops (i :: rest) :: k)) cs) w = .go (G (b.at (a.put o.dst undef) (.inRegion ops rest :: k)) cs) (w.setCell ad v) es ∧ ∀ e ∈ es, InB ad.block e := by
  have hcells : v.cells = #[v] := by cases v <;> first | rfl | cases hv
  have h0 : ad.add 0 = ad := rfl
  have he : execOp a.eval o = (do storeVar ty ad v; pure .skip : Sem Next) := by unfold execOp; simp only [hop, hx, hy]; rfl
  have hst : (store ad v).run P w = .ok () (w.setCell ad v) := by
    cases v <;> first | (cases hv; done) | (simp only [store, Sem.run, hc, hz]; rfl)
  have hr : (storeVar ty ad v).run P w = .ok () (w.setCell ad v) := by
    unfold storeVar
    rw [Sem.run_bind, hs]
    simp only [hcells, Result.andThen_ok]
    show ((store (ad.add 0) v).bind fun _ => (pure () : Sem Unit)).run P w = _
    rw [h0]
    show ((store ad v) >>= fun _ => (pure () : Sem Unit)).run P w = _
    rw [Sem.run_bind, hst]
    rfl
  refine ⟨_, stepG_none ho hw hk (by rw [he, Sem.run_bind, hr]; rfl), fun e hm => ?_⟩
  have hm := mem_listed hm
  rw [he, Sem.events_bind, hr] at hm
  have h2 : e ∈ (storeVar ty ad v).events P w #[] := hm
  unfold storeVar at h2
  rw [Sem.events_bind, hs] at h2
  simp only [events_sizeOf, hcells] at h2
  have h3 : e ∈ ((store (ad.add 0) v) >>= fun _ => (pure () : Sem Unit)).events P w #[] := h2
  rw [h0, Sem.events_bind, hst] at h3
  have h4 : e ∈ (store ad v).events P w #[] := h3
  rw [events_store P w #[] ad v .plain hv, hc] at h4
  simp only [hz] at h4
  have h5 : e = ⟨.cell ad, true, Mode.plain == Mode.atomic⟩ := by simpa using h4
  exact ⟨ad, by rw [h5], rfl⟩

/-- A whole row is written. -/
theorem stepG_storeR {t ty : TypeId} {x y : Operand} {g : Nat} {old vs : Array Value} (ho : ops[i]? = some o) (hw : Region.wanted o (yielded ops a.tmps) = true) (hk : b.kind ≠ .early) (hop : o.op = .store ty x y) (hx : a.eval x = .pointer (some ⟨g, 0, none⟩)) (hy : a.eval y = .agg vs)
    (hg : w.heap[g]? = some (.cells old t)) (hi : (P.info? ty).map (·.size) = some vs.size) (hs : old.size = vs.size) (h1 : vs.all (·.oneCell') = true) (hso : ∀ w, (sizeOf ty).run P w = .ok vs.size w) :
    ∃ es, stepG P main (G (b.at a (.inRegion ops (i :: rest) :: k)) cs) w = .go (G (b.at (a.put o.dst undef) (.inRegion ops rest :: k)) cs) (w.setRow g vs) es ∧ ∀ e ∈ es, InB g e := by
  have he : execOp a.eval o = (do storeVar ty ⟨g, 0, none⟩ (.agg vs); pure .skip : Sem Next) := by unfold execOp; simp only [hop, hx, hy]; rfl
  have hr := run_storeVar_row (P := P) w g t ty old vs hg hi hs h1
  refine ⟨_, stepG_none ho hw hk (by rw [he, Sem.run_bind, hr]; rfl), fun e hm => ?_⟩
  have hm := mem_listed hm
  rw [he, Sem.events_bind, hr] at hm
  have h2 : e ∈ (storeVar ty ⟨g, 0, none⟩ (.agg vs)).events P w #[] := hm
  unfold storeVar at h2
  rw [Sem.events_bind, hso] at h2
  simp only [events_sizeOf] at h2
  have hne : ¬ (Value.agg vs).cells.size ≠ vs.size := by simp [Value.cells]
  have h3 : e ∈ (storeCells ⟨g, 0, none⟩ vs.toList 0).events P w #[] := by
    replace h2 : e ∈ (if (Value.agg vs).cells.size ≠ vs.size then (stuck "storeVar: the value has not the size of the variable" >>= fun _ : Unit => storeCells ⟨g, 0, none⟩ (Value.agg vs).cells.toList) else storeCells ⟨g, 0, none⟩ (Value.agg vs).cells.toList : Sem Unit).events P w #[] := h2
    rw [if_neg hne] at h2
    exact h2
  rcases events_storeCells_at g 0 t vs.toList 0 old w #[] hg (by simp; omega) (fun v hv => (Array.all_eq_true_iff_forall_mem.1 h1) v (by simpa using hv)) e h3 with h | ⟨ad, h4, h5⟩
  · simp at h
  · exact ⟨ad, h4, h5⟩
end

section
variable {st : MSt} {S : Nat → Prop} {B g : Nat} {w : World} {es : Array Event}
theorem act_cell {e : Event} {ad : Addr} (h : e.loc = .cell ad) : MemAct.ofEvent e = .access e := by
  obtain ⟨l, x, y⟩ := e
  simp only at h
  subst h
  cases x <;> cases y <;> rfl
theorem evM_cell {e : Event} (h : InB g e) (hm : e.write = true → st.may g) (hg : ¬ st.grp g) (hB : g < B) : EvM st B e := by
  obtain ⟨ad, h1, rfl⟩ := h
  refine ⟨fun x hx => ?_, by rw [h1]; simp, by rw [h1]; simp, by rw [h1]; simp, ?_⟩
  · rw [act_cell h1] at hx
    simp only [MemAct.touch?, Option.some.injEq] at hx
    subst hx
    exact .inr ⟨by simp only [h1]; exact hg, fun hw => .inl ⟨ad, h1, hm hw⟩⟩
  · rw [act_cell h1]
    show (e.loc).low B
    rw [h1]; exact hB
theorem evK_cell {e : Event} (h : RdB g e) (hS : S g) (hB : g < B) : EvK S B e := by
  obtain ⟨⟨ad, h1, rfl⟩, h2⟩ := h
  refine ⟨fun x hx => ?_, by rw [h1]; simp, by rw [h1]; simp, by rw [h1]; simp, ?_⟩
  · rw [act_cell h1] at hx
    simp only [MemAct.touch?, Option.some.injEq] at hx
    subst hx
    exact ⟨ad, h1, hS, h2⟩
  · rw [act_cell h1]
    show (e.loc).low B
    rw [h1]; exact hB
theorem dm_read (h : ∀ e ∈ es, RdB g e) (hg : ¬ st.grp g) (hB : g < w.heap.size) : DM st w w es :=
  ⟨Nat.le_refl _, fun _ => rfl, fun _ _ _ => rfl, fun e he => evM_cell (h e he).1 (fun hw => by rw [(h e he).2] at hw; cases hw) hg hB⟩
theorem dm_set {a : Addr} {v : Value} (h : ∀ e ∈ es, InB a.block e) (hm : st.may a.block) (hg : ¬ st.grp a.block) (hB : a.block < w.heap.size) : DM st w (w.setCell a v) es := by
  have hA := aside_setCell w a v
  exact ⟨by rw [hA.size]; exact Nat.le_refl _, fun _ => hA.size, fun b _ hb => hA.block b fun e => hb (e ▸ hm), fun e he => evM_cell (h e he) (fun _ => hm) hg (by rw [hA.size]; exact hB)⟩
theorem dm_setRow {vs : Array Value} (h : ∀ e ∈ es, InB g e) (hm : st.may g) (hg : ¬ st.grp g) (hB : g < w.heap.size) : DM st w (w.setRow g vs) es := by
  have hs : (w.setRow g vs).heap.size = w.heap.size := by simp [World.setRow]
  exact ⟨by rw [hs]; exact Nat.le_refl _, fun _ => hs, fun b _ hb => setRow_other w g b vs fun e => hb (e ▸ hm), fun e he => evM_cell (h e he) (fun _ => hm) hg (by rw [hs]; exact hB)⟩
end

end Go.Proofs.YtiodikflmijhkaaGreatDoor.Farm
end

section
set_option linter.unusedSectionVars false
set_option linter.unusedVariables false
set_option linter.unusedSimpArgs false
namespace Go.Proofs.YtiodikflmijhkaaGreatDoor
open Go.Conc Go.ConcN Go.RowKit Go.Conc.Lib Go.ConcR.Gen Go.ConcN.Gen Farm
open Go.ConcR (KK wgBlock WgAt stA smA rd wr mk Payload Aside2 DC0)

/-- The call that a go statement holds: the group, and the boxes in which the captured variables lie. -/
def call21 (wg Bv Br Bp Bc : Nat) : Deferred := { target := .fn (.func 40) #[.pointer (some ⟨wg, 0, none⟩), .pointer (some ⟨Bv, 0, none⟩), .pointer (some ⟨Br, 0, none⟩), .pointer (some ⟨Bp, 0, none⟩), .pointer (some ⟨Bc, 0, none⟩)], args := #[] }
def caps (wg Bv Br Bp Bc : Nat) : Array Value := #[.pointer (some ⟨wg, 0, none⟩), .pointer (some ⟨Bv, 0, none⟩), .pointer (some ⟨Br, 0, none⟩), .pointer (some ⟨Bp, 0, none⟩), .pointer (some ⟨Bc, 0, none⟩), undef, undef, undef, undef, undef]

theorem born_step (wg Bv Br Bp Bc : Nat) (w : World) : stepG Tryz.prog false (born Tryz.prog (call21 wg Bv Br Bp Bc)) w = .go (G (b21.at ⟨caps wg Bv Br Bp Bc, []⟩ [.code body21]) [bot]) w #[] := by
  simp [born, call21, caps, stepG, unwind, callDeferred, invoke, callFunc, Tryz.func40, Tryz.f40, seen, GStep.after, G, Frame.enter, Frame.at, b21, baseD, bot, body21]

/-- What the worker is given. -/
structure KC (S : Nat → Prop) (wg Bv Br Bp Bc c rw : Nat) (Lv Lp : List Int) (w : World) : Prop where
  v : w.heap[Bv]? = some (.cells (VL Lv) 36)
  r : w.heap[Br]? = some (.cells #[.int .i64 (rw : Int)] 3)
  p : w.heap[Bp]? = some (.cells (VL Lp) 39)
  c : w.heap[Bc]? = some (.cells #[.chan (some c)] 61)
  live : WgLive 71 wg w
  sv : S Bv
  sr : S Br
  sp : S Bp
  sc : S Bc
section
variable {S O : Nat → Prop} {wg Bv Br Bp Bc c rw : Nat} {Lv Lp : List Int} {w w₁ : World}
theorem kc_rely (h : KC S wg Bv Br Bp Bc c rw Lv Lp w) (r : RK 71 wg S w w₁) : KC S wg Bv Br Bp Bc c rw Lv Lp w₁ :=
  ⟨(r.keep _ h.sv).trans h.v, (r.keep _ h.sr).trans h.r, (r.keep _ h.sp).trans h.p, (r.keep _ h.sc).trans h.c, r.live h.live, h.sv, h.sr, h.sp, h.sc⟩
theorem lt_of_some {b : Nat} {o : Obj} (h : w.heap[b]? = some o) : b < w.heap.size := (Array.getElem?_eq_some_iff.1 h).1
theorem cell_one {b : Nat} {u : Value} {t : TypeId} (h : w.heap[b]? = some (.cells #[u] t)) : w.cell? ⟨b, 0, none⟩ = some u := by simp [World.cell?, h]
theorem dk_rd {g : Nat} {es : Array Event} (h : ∀ e ∈ es, RdB g e) (hS : S g) (hB : g < w.heap.size) : DK S w w es := ⟨⟨w.drawn, rfl⟩, fun e he => evK_cell (h e he) hS hB⟩
theorem vInfoL (L : List Int) (h : L.length = 24) : ((Tryz.prog).info? 36).map (·.size) = some (VL L).size := by rw [VL_size, h]; kernel_rfl
theorem pInfoL (L : List Int) (h : L.length = 24) : ((Tryz.prog).info? 39).map (·.size) = some (VL L).size := by rw [VL_size, h]; kernel_rfl

abbrev KWk (c : Nat) (wg : Nat) (N : Nat) (O S : Nat → Prop) (ss : List Value) (g : Goroutine) (w : World) : Prop := Wk Tryz.prog 71 wg c N O S ss g w

set_option maxRecDepth 100000 in
set_option maxHeartbeats 8000000 in
/-- Behind its two boxes. -/
theorem inRow (hLv : Lv.length = 24) (hLp : Lp.length = 24) (hrw : rw < 4) {Cv Cp : Nat} (hO : O Cv) (T1 T : Array Value) (w : World) (hs : T.size = 26) (t1 : T[1]? = some (.int .i64 (rw : Int))) (t3 : T[3]? = some (.chan (some c))) (t4 : T[4]? = some (.pointer (some ⟨Cv, 0, none⟩))) (t6 : T[6]? = some (.pointer (some ⟨Cp, 0, none⟩)))
    {ops : Array Oper} {k' : List Item} (hk' : .inRegion ops [] :: k' = (match bodyS with | .seq _ r => [.inRegion ops [], .code r] | _ => [])) (hF : KB S 71 wg Cv Cp Lv Lp w) :
    KWk c wg 7 O S (sents Lv Lp rw 0 6) (G (bS.at ⟨T, []⟩ (.inRegion ops [] :: k')) (cs21 wg T1)) w := by
  refine ⟨12 + 80, goes_join (n := 12) (m := 80) dk_nil (RK.refl) ?_⟩
  obtain ⟨v0, v1, v2, v3, v4, v5, v6, v7, v8, v9, v10, v11, v12, v13, v14, v15, v16, v17, v18, v19, v20, v21, v22, v23, v24, v25, rfl⟩ := array26 T hs
  simp only [List.getElem?_toArray, List.getElem?_cons_succ, List.getElem?_cons_zero, Option.some.injEq] at t1 t3 t4 t6
  subst t1 t3 t4 t6
  rw [hk']
  have hl := sendLoop (S := S) (O := O) (wg := wg) (Cv := Cv) (Cp := Cp) (Lv := Lv) (Lp := Lp) (c := c) (cs := cs21 wg T1) (rw := rw) hLv hLp hrw (atEnd (Cp := Cp) (Lp := Lp) (S := S) (rw := rw) (c := c) hLv hO T1) 6 0 rfl
  simp only [bodyS, LS, RS, Tryz.f42, Option.getD_some] at hl ⊢
  u_c stepG_region_end kb_rely hF
  u_c stepG_seq kb_rely hF
  u_c stepG_seq kb_rely hF
  u_reg kb_rely hF
  u_op kb_rely hF
  u_c stepG_region_end kb_rely hF
  u_c stepG_block kb_rely hF
  u_c stepG_loop kb_rely hF
  refine Goes.stop (fun w₃ h₃ => ?_)
  exact hl _ _ ⟨by simp, by simp, by simp, by simp, by simp, by simp⟩ (kb_rely hF h₃)

theorem live_alloc {o : Obj} (h : WgLive 71 wg w) : WgLive 71 wg (w.alloc o) := by
  obtain ⟨st, sm, h⟩ := h
  exact ⟨st, sm, (heap_alloc_ne _ _ (lt_of_some h)).trans h⟩
theorem kstop_box {K : (Nat → Prop) → (Nat → Prop) → List Value → Goroutine → World → Prop} {ss : List Value} {b : Frame} {a : Act} {k : List Item} {cs : List Frame} {ops : Array Oper} {i : Nat} {rest : List Nat} {o : Oper} {t : TypeId} {x : Operand}
    (ho : ops[i]? = some o) (hw : Region.wanted o (yielded ops a.tmps) = true) (hk : b.kind ≠ .early) (hop : o.op = .box t x)
    (hn : K (fun b => O b ∨ b = w.heap.size) (fun b => S b ∨ b = w.heap.size) ss (G (b.at (a.put o.dst (.pointer (some ⟨w.heap.size, 0, none⟩))) (.inRegion ops rest :: k)) cs) (w.alloc (.cells (a.eval x).cells t))) :
    KStop Tryz.prog 71 wg c K O S ss (G (b.at a (.inRegion ops (i :: rest) :: k)) cs) w :=
  .new _ _ _ (stepG_box ho hw hk hop) hn
theorem szV (w : World) : (sizeOf 36).run Tryz.prog w = .ok 24 w := Tryz.sizeOf36 w
theorem szP (w : World) : (sizeOf 39).run Tryz.prog w = .ok 24 w := Tryz.sizeOf39 w

set_option maxRecDepth 100000 in
set_option maxHeartbeats 8000000 in
/-- ████ A WORKER DOES ITS SCRIPT. ████ -/
theorem works (hLv : Lv.length = 24) (hLp : Lp.length = 24) (hrw : rw < 4) (hF : KC S wg Bv Br Bp Bc c rw Lv Lp w) : KWk c wg 9 O S (sents Lv Lp rw 0 6) (born Tryz.prog (call21 wg Bv Br Bp Bc)) w := by
  refine ⟨(8 + (4 + (8 + 0))) + 1, ?_⟩
  refine Goes.step rfl (fun w₁ h₁ => ?_)
  replace hF := kc_rely hF h₁
  clear h₁
  rw [born_step]
  simp only [goes_go]
  refine ⟨dk_nil _, ?_⟩
  refine goes_join (n := 8) (m := 4 + (8 + 0)) dk_nil (RK.refl) ?_
  simp only [body21, Tryz.f40, Option.getD_some, caps]
  u_c stepG_seq kc_rely hF
  u_reg kc_rely hF
  u_defer kc_rely hF
  u_c stepG_region_end kc_rely hF
  u_reg kc_rely hF
  refine Goes.stop (fun w₁ h₁ => ?_)
  replace hF := kc_rely hF h₁
  clear h₁
  -- the four captured variables are read
  refine Goes.step rfl (fun w₁ h₁ => ?_)
  replace hF := kc_rely hF h₁
  clear h₁
  refine goes_ex (stepG_loadR (P := Tryz.prog) (main := false) (w := w₁) (g := Bv) (vs := VL Lv) (t := 36) (ty := 36) (x := .tmp 1) rfl rfl (by k_ne) rfl rfl hF.v Tryz.underlying36 rfl (vInfoL Lv hLv) Tryz.isAgg36 (fun w => by rw [VL_size, hLv]; exact szV w)) fun es hes => ⟨dk_rd hes hF.sv (lt_of_some hF.v), ?_⟩
  clear hes es
  walk_nrm
  refine Goes.step rfl (fun w₁ h₁ => ?_)
  replace hF := kc_rely hF h₁
  clear h₁
  refine goes_ex (stepG_load1 (P := Tryz.prog) (main := false) (w := w₁) (ad := ⟨Br, 0, none⟩) (ty := 3) (x := .tmp 2) rfl rfl (by k_ne) rfl rfl (cell_one hF.r) Tryz.isAgg3) fun es hes => ⟨dk_rd hes hF.sr (lt_of_some hF.r), ?_⟩
  clear hes es
  walk_nrm
  refine Goes.step rfl (fun w₁ h₁ => ?_)
  replace hF := kc_rely hF h₁
  clear h₁
  refine goes_ex (stepG_loadR (P := Tryz.prog) (main := false) (w := w₁) (g := Bp) (vs := VL Lp) (t := 39) (ty := 39) (x := .tmp 3) rfl rfl (by k_ne) rfl rfl hF.p Tryz.underlying39 rfl (pInfoL Lp hLp) Tryz.isAgg39 (fun w => by rw [VL_size, hLp]; exact szP w)) fun es hes => ⟨dk_rd hes hF.sp (lt_of_some hF.p), ?_⟩
  clear hes es
  walk_nrm
  refine Goes.step rfl (fun w₁ h₁ => ?_)
  replace hF := kc_rely hF h₁
  clear h₁
  refine goes_ex (stepG_load1 (P := Tryz.prog) (main := false) (w := w₁) (ad := ⟨Bc, 0, none⟩) (ty := 61) (x := .tmp 4) rfl rfl (by k_ne) rfl rfl (cell_one hF.c) Tryz.isAgg61) fun es hes => ⟨dk_rd hes hF.sc (lt_of_some hF.c), ?_⟩
  clear hes es
  walk_nrm
  refine goes_join (n := 8) (m := 0) dk_nil (RK.refl) ?_
  u_call Tryz.func42 nmSR Tryz.f42 kc_rely hF
  u_c stepG_seq kc_rely hF
  u_reg kc_rely hF
  refine Goes.stop (fun w₁ h₁ => ?_)
  replace hF := kc_rely hF h₁
  clear h₁
  refine Goes.stop (fun w₁ h₁ => ?_)
  replace hF := kc_rely hF h₁
  clear h₁
  refine ⟨rfl, kstop_box (x := .tmp 0) rfl rfl (by k_ne) rfl ?_⟩
  refine ⟨0, Goes.stop (fun w₂ h₂ => ?_)⟩
  have v0 : w₂.heap[w₁.heap.size]? = some (.cells (VL Lv) 36) := (h₂.keep _ (.inr rfl)).trans (heap_alloc_new _ _)
  have hL : WgLive 71 wg w₂ := h₂.live (live_alloc hF.live)
  clear hF h₂
  refine ⟨rfl, kstop_box (x := .tmp 2) rfl rfl (by k_ne) rfl ?_⟩
  refine inRow hLv hLp hrw (Cv := w₁.heap.size) (Cp := w₂.heap.size) (.inl (.inr rfl)) _ _ _ (by simp [Act.put]) rfl rfl rfl rfl rfl ?_
  exact ⟨(heap_alloc_ne _ _ (lt_of_some v0)).trans v0, heap_alloc_new _ _, live_alloc hL, .inl (.inr rfl), .inr rfl⟩
end

end Go.Proofs.YtiodikflmijhkaaGreatDoor
end
