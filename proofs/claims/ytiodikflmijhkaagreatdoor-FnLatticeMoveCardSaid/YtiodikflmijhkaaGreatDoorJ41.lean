/- Joined texts: G20 N3. -/
import Derived.Test.YtiodikflmijhkaaGreatDoorJ37
import Derived.Conc.CompanyCalls
import Derived.Test.YtiodikflmijhkaaGreatDoorJ40
section
set_option linter.unusedSectionVars false
set_option linter.unusedVariables false
namespace Go.Proofs.YtiodikflmijhkaaGreatDoor.Farm
open Go Go.Conc Go.ConcN
open Go.ConcR (KK wgBlock WgAt stA smA rd wr mk Payload Aside2 DC0 Bk g_of_ofEvents)
open Vow
variable [Payload]

section
variable {P : Program} {ty : TypeId} {st : MSt} {S : Scope} {b : Frame} {a : Act} {k : List Item} {cs : List Frame} {w : World} {ops : Array Oper} {i : Nat} {rest : List Nat} {o : Oper} {Fin : Value → World → Prop}

theorem dm0 {w : World} : DM st w w #[] := ⟨Nat.le_refl _, fun _ => rfl, fun _ _ _ => rfl, by simp⟩

/-- A callee that leaves: what its results read lies in the scope. -/
theorem done_leave {fr c : Frame} {v : Value} {w1 : World} {T : Nat → Question → Nat} {d : Nat} (hS : ScopeOk S P) (htag : st.tag = .law) (hmay : ∀ b, ¬ S.D b → st.may b ∧ ¬ st.grp b) (hfo : FrOk S P fr) (hw1 : HeapOk S w1)
    (hl : fr.leaving P (tp w1 T d) (.returned v)) (hK : Done P ty Fin st (G (c.finish v) cs) w1) : Done P ty Fin st (G fr (c :: cs)) w1 := by
  obtain ⟨hm, hd, hk, fn, hf, hr⟩ := hl
  obtain ⟨res, es', m, hR⟩ := (hS.res _ fn hfo.fn hf fr.tmps hfo.tmps).runs _ (tp w1 T d) #[] ⟨hw1.low, hw1.obj⟩
  have h1 := hR.run T d fun _ _ => rfl
  have h2 : (rtp res T (d + m)) = .ok v (tp w1 T d) := by
    have h3 := congrArg Prod.fst h1
    rw [Sem.runT_fst] at h3
    exact h3.symm.trans hr
  cases res with
  | halt hh w' => cases h2
  | ok u w' =>
    have hu : u = v ∧ tp w' T (d + m) = tp w1 T d := by
      have h4 : Result.ok u (tp w' T (d + m)) = Result.ok v (tp w1 T d) := h2
      exact ⟨by injection h4, by injection h4⟩
    obtain ⟨rfl, hu⟩ := hu
    have hm0 : m = 0 := by
      have := congrArg World.drawn hu
      have h5 : d + m = d := this
      omega
    subst hm0
    have hw : ∀ d', tp w' w1.tape d' = w1.at d' := fun d' => @congrArg World World (tp w' T (d + 0)) (tp w1 T d) (fun W => tp W w1.tape d') hu
    have hg := good_of_ran hR fr.fn false
    have hz : (rw_ (Result.ok u w')).heap.size = w1.heap.size := @congrArg World Nat (tp w' T (d + 0)) (tp w1 T d) (fun W => W.heap.size) hu
    refine done_step (f := fun _ => G (c.finish u) cs) (v := fun d => w1.at d) (es := fun _ => seen P fr.fn es') htag rfl (fun d => ?_) (fun d => ?_) fun d => hK
    · have h6 := hR.run w1.tape d fun i hi => absurd hi (Nat.not_lt_zero i)
      have h7 : (results fn fr.tmps).runT P (w1.at d) #[] = (.ok u (w1.at d), es') := by
        have h8 : (results fn fr.tmps).runT P (w1.at d) #[] = (.ok u (tp w' w1.tape d), es') := h6
        rw [h8, hw]
      simp only [G, stepG, hm, unwind, hd, hf, h7]
      simp [doReturn, hk, GStep.after]
    · exact ⟨Nat.le_refl _, fun _ => rfl, fun _ _ _ => rfl, fun e he => by
        have := evM_of_evV hmay (hg.evs e he)
        rw [hz] at this
        exact this⟩

/-- ████ A CALL BY ITS CONTRACT, WHATEVER THE CALLER'S FRAME HOLDS. ████ -/
theorem done_callC {f : FuncId} {fn : Func} {c : Code} {args : Array Operand} {ats : Array TypeId} {R : (Nat → Question → Nat) → Nat → Ending → World → Prop}
    (hS : ScopeOk S P) (htag : st.tag = .law) (hmay : ∀ b, ¬ S.D b → st.may b ∧ ¬ st.grp b)
    (ho : ops[i]? = some o) (hwt : Region.wanted o (yielded ops a.tmps) = true) (hk : b.kind ≠ .early) (hop : o.op = .call { callee := .value (.func f), args, argTypes := ats })
    (hf : P.funcs[f]? = some fn) (hname : (fn.name == "runtime.NumGoroutine") = false) (hb : fn.body = some c) (hF : S.F f)
    {vs : Array Value} (hargs : args.map a.eval = vs) (hvs : ∀ v ∈ vs, Ok S v) (hw : HeapOk S w)
    (hC : ∀ T d, Calls P f vs (tp w T d) (R T d)) (hR : ∀ T d e w', R T d e w' → ∃ v, e = .returned v)
    (hK : ∀ v w1 T d T' d', R T d (.returned v) (tp w1 T' d') → HeapOk S w1 → w1.tape = w.tape → Done P ty Fin st (G (b.at (a.put o.dst v) (.inRegion ops rest :: k)) cs) w1) :
    Done P ty Fin st (G (b.at a (.inRegion ops (i :: rest) :: k)) cs) w := by
  subst hargs
  have hbn : fn.body.isNone = false := by rw [hb]; rfl
  have hL : LoneC P (fun fr' w' => ∃ T d v, R T d (.returned v) w' ∧ fr'.fn = f ∧ fr'.leaving P w' (.returned v)) (Frame.enter P f (args.map a.eval) .normal) w := by
    intro T d
    obtain ⟨e, w', fr, hRe, hcome, hfn, hlv⟩ := hC T d [pc]
    obtain ⟨v, rfl⟩ := hR T d e w' hRe
    exact ⟨fr, w', hcome, T, d, v, hRe, hfn, hlv⟩
  have hT := tree_of_call hS (enter_ok hS hF hvs) rfl hw hL
  have hcallee : Done P ty Fin st (G (Frame.enter P f (args.map a.eval) .normal) (b.at a (.inRegion ops (i :: rest) :: k) :: cs)) w := by
    refine done_of_tree (ty := ty) (Fin := Fin) (cs := b.at a (.inRegion ops (i :: rest) :: k) :: cs) htag hmay hT fun fr' w1 T' d' hq h3 h4 h5 => ?_
    obtain ⟨T, d, v, h1, h2, hlv⟩ := hq
    refine done_leave hS htag hmay h4 h3 hlv ?_
    · have hfin : (b.at a (.inRegion ops (i :: rest) :: k)).finish v = b.at (a.put o.dst v) (.inRegion ops rest :: k) := by rw [Frame.finish_at, ho]; rfl
      rw [hfin]
      exact hK v w1 T d T' d' h1 h3 h5
  refine done_step (f := fun _ => G (Frame.enter P f (args.map a.eval) .normal) (b.at a (.inRegion ops (i :: rest) :: k) :: cs)) (v := fun d => w.at d) (es := fun _ => #[]) htag rfl (fun d => ?_) (fun d => dm0) fun d => hcallee
  rw [stepG_enter ho hwt hk (run_call_body hop hf hname hbn)]
  have : listed P b.fn a o (w.at d) = #[] := by unfold listed; rw [events_call_body hop hf hname hbn]; exact seen_none P _
  rw [this]
end
end Go.Proofs.YtiodikflmijhkaaGreatDoor.Farm
end

section
set_option linter.unusedSectionVars false
set_option linter.unusedVariables false
namespace Go.Proofs.YtiodikflmijhkaaGreatDoor.Farm
open Go Go.Conc Go.ConcN
open Go.ConcR (KK wgBlock WgAt stA smA rd wr mk Payload Aside2 DC0 Bk g_of_ofEvents)
variable [Payload]

section
variable {P : Program} {ty : TypeId} {st : MSt} {S : Nmo.Scope} {b : Frame} {a : Act} {k : List Item} {cs : List Frame} {w : World} {ops : Array Oper} {i : Nat} {rest : List Nat} {o : Oper} {Fin : Value → World → Prop} {Q : Frame → World → Prop}

/-- A callee that leaves, its results being slots. -/
theorem done_leaveR {fr c : Frame} {v : Value} {w1 : World} {T : Nat → Question → Nat} {d : Nat} (htag : st.tag = .law) (hres : ∀ fn, P.funcs[fr.fn]? = some fn → ∀ tmps, ∃ u, ResultsC P fn tmps u)
    (hl : fr.leaving P (Nmo.tp w1 T d) (.returned v)) (hK : Done P ty Fin st (G (c.finish v) cs) w1) : Done P ty Fin st (G fr (c :: cs)) w1 := by
  obtain ⟨hm, hd, hk, fn, hf, hr⟩ := hl
  obtain ⟨u, hu⟩ := hres fn hf fr.tmps
  have e : u = v := by
    have := (hu (Nmo.tp w1 T d)).1
    rw [hr] at this
    cases this
    rfl
  subst e
  refine done_step (f := fun _ => G (c.finish u) cs) (v := fun d => w1.at d) (es := fun _ => #[]) htag rfl (fun d => ?_) (fun d => dm0) fun d => ?_
  · have h1 := hu (w1.at d)
    simp [G, stepG, unwind, doReturn, hm, hd, hk, hf, h1.1, h1.2, seen_none, GStep.after]
  · exact hK

theorem evM_of_evN (hmay : ∀ b, st.may b ∧ ¬ st.grp b) {B : Nat} {e : Event} (h : Nmo.EvV B e) : EvM st B e := by
  obtain ⟨loc, wr, sy⟩ := e
  rcases h with ⟨a, h1, h3⟩ | ⟨r, h1, h3, h4⟩ | h1
  · simp only at h1
    subst h1
    refine ⟨fun x hx => ?_, by simp, by simp, by simp, h3⟩
    simp only [MemAct.ofEvent, MemAct.touch?, Option.some.injEq] at hx
    subst hx
    exact .inr ⟨(hmay _).2, fun _ => .inl ⟨a, rfl, (hmay _).1⟩⟩
  · simp only at h1
    subst h1
    have : MemAct.ofEvent ⟨.obj r, wr, sy⟩ = .access ⟨.obj r, wr, sy⟩ := by cases wr <;> cases sy <;> first | rfl | simp at h4
    refine ⟨fun x hx => ?_, by simp, by simp, by simp, by rw [this]; exact h3⟩
    simp only [this, MemAct.touch?, Option.some.injEq] at hx
    subst hx
    exact .inr ⟨(hmay _).2, fun _ => .inr ⟨r, rfl, (hmay _).1⟩⟩
  · simp only at h1
    subst h1
    exact ⟨fun x hx => by simp [MemAct.ofEvent, MemAct.touch?] at hx, by simp, by simp, by simp, trivial⟩

theorem done_of_treeN (htag : st.tag = .law) (hmay : ∀ b, st.may b ∧ ¬ st.grp b) {cs : List Frame} {fr : Frame} {up : List Frame} (h : Nmo.Tree S P Q fr up w)
    (hQ : ∀ fr w' T d, Q fr (Nmo.tp w' T d) → Nmo.Cells S.N w' → w'.tape = w.tape → Done P ty Fin st (G fr cs) w') : Done P ty Fin st (Nmo.gS cs fr up) w := by
  induction h with
  | stop fr w T d h1 h2 h3 => exact hQ fr w T d h1 h2 rfl
  | step fr up w f u v es m h1 h2 h3 ih =>
    refine done_step (f := fun d => Nmo.gS cs (f d) (u d)) (v := v) (es := es) htag rfl (fun d => h1 d cs) (fun d => ?_) fun d => ih d fun fr' w' T d' a1 a2 a4 => hQ fr' w' T d' a1 a2 (a4.trans (h2 d).kept.tape)
    have hk := (h2 d).kept
    exact ⟨hk.size, fun hl => absurd htag hl, fun b hb hm => absurd (hmay b).1 hm, fun e he => evM_of_evN hmay ((h2 d).evs e he)⟩

/-- ████ A CALL BY ITS CONTRACT AHEAD OF ALL THAT STARTS. ████ -/
theorem done_callN {f : FuncId} {fn : Func} {c : Code} {args : Array Operand} {ats : Array TypeId} {R : (Nat → Question → Nat) → Nat → Ending → World → Prop}
    (hS : Nmo.ScopeOk S P) (htag : st.tag = .law) (hmay : ∀ b, st.may b ∧ ¬ st.grp b)
    (ho : ops[i]? = some o) (hwt : Region.wanted o (yielded ops a.tmps) = true) (hk : b.kind ≠ .early) (hop : o.op = .call { callee := .value (.func f), args, argTypes := ats })
    (hf : P.funcs[f]? = some fn) (hname : (fn.name == "runtime.NumGoroutine") = false) (hb : fn.body = some c) (hF : S.F f) (hres : ∀ tmps, ∃ u, ResultsC P fn tmps u)
    {vs : Array Value} (hargs : args.map a.eval = vs) (hw : Nmo.Cells S.N w)
    (hC : ∀ T d, Calls P f vs (Nmo.tp w T d) (R T d)) (hR : ∀ T d e w', R T d e w' → ∃ v, e = .returned v)
    (hK : ∀ v w1 T d T' d', R T d (.returned v) (Nmo.tp w1 T' d') → Nmo.Cells S.N w1 → w1.tape = w.tape → Done P ty Fin st (G (b.at (a.put o.dst v) (.inRegion ops rest :: k)) cs) w1) :
    Done P ty Fin st (G (b.at a (.inRegion ops (i :: rest) :: k)) cs) w := by
  subst hargs
  have hbn : fn.body.isNone = false := by rw [hb]; rfl
  have hL : Nmo.LoneC P (fun fr' w' => ∃ T d v, R T d (.returned v) w' ∧ fr'.fn = f ∧ fr'.leaving P w' (.returned v)) (Frame.enter P f (args.map a.eval) .normal) w := by
    intro T d
    obtain ⟨e, w', fr, hRe, hcome, hfn, hlv⟩ := hC T d [Nmo.pc]
    obtain ⟨v, rfl⟩ := hR T d e w' hRe
    exact ⟨fr, w', hcome, T, d, v, hRe, hfn, hlv⟩
  have hT := Nmo.tree_of_call hS (Nmo.enter_ok hS hF) hw hL
  have hcallee : Done P ty Fin st (G (Frame.enter P f (args.map a.eval) .normal) (b.at a (.inRegion ops (i :: rest) :: k) :: cs)) w := by
    refine done_of_treeN (ty := ty) (Fin := Fin) (cs := b.at a (.inRegion ops (i :: rest) :: k) :: cs) htag hmay hT fun fr' w1 T' d' hq h3 h5 => ?_
    obtain ⟨T, d, v, h1, h2, hlv⟩ := hq
    refine done_leaveR (T := T') (d := d') htag (fun fn' hf' tmps => ?_) hlv ?_
    · rw [h2, hf] at hf'
      cases hf'
      exact hres tmps
    · have hfin : (b.at a (.inRegion ops (i :: rest) :: k)).finish v = b.at (a.put o.dst v) (.inRegion ops rest :: k) := by rw [Frame.finish_at, ho]; rfl
      rw [hfin]
      exact hK v w1 T d T' d' h1 h3 h5
  refine done_step (f := fun _ => G (Frame.enter P f (args.map a.eval) .normal) (b.at a (.inRegion ops (i :: rest) :: k) :: cs)) (v := fun d => w.at d) (es := fun _ => #[]) htag rfl (fun d => ?_) (fun d => dm0) fun d => hcallee
  rw [stepG_enter ho hwt hk (run_call_body hop hf hname hbn)]
  have : listed P b.fn a o (w.at d) = #[] := by unfold listed; rw [events_call_body hop hf hname hbn]; exact seen_none P _
  rw [this]
end
end Go.Proofs.YtiodikflmijhkaaGreatDoor.Farm
end
