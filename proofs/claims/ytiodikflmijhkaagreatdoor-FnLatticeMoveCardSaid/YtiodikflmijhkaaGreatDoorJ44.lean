/- Joined texts: G13 G14 G15. -/
import Derived.Test.YtiodikflmijhkaaGreatDoorJ27
import Derived.Conc.Listed
section
set_option linter.unusedSectionVars false
set_option linter.unusedVariables false
set_option linter.unusedSimpArgs false
namespace Go.Proofs.YtiodikflmijhkaaGreatDoor
open Go.Conc Go.ConcN Go.RowKit Go.Conc.Lib Go.ConcR.Gen Go.ConcN.Gen Farm
open Go.ConcR (KK wgBlock WgAt stA smA rd wr mk Payload Aside2 DC0)

section
variable {P : Program} {main : Bool} {b : Frame} {a : Act} {cs : List Frame} {w : World}
theorem stepG_leaveE {fn : Func} {todo : List Item} {c : Frame} {v : Value} (hn : b.kind = .normal) (hd : a.defers = []) (hf : P.funcs[b.fn]? = some fn)
    (hr : (results fn a.tmps).run P w = .ok v w) :
    stepG P main (G { b.at a todo with mode := .returning } (c :: cs)) w = .go (G (c.finish v) cs) w (seen P b.fn ((results fn a.tmps).events P w #[])) := by
  simp [G, stepG, unwind, doReturn, Frame.at, hn, hd, hf, hr, GStep.after]
theorem loadVar_row_in {t ty : TypeId} {g : Nat} {vs : Array Value} {d : TypeDesc} (hg : w.heap[g]? = some (.cells vs t)) (hu : P.underlying ty = some d) (hd : (match d with | .struct _ | .array _ _ => true | _ => false) = true) (hi : (P.info? ty).map (·.size) = some vs.size) (hag : ∀ w, (isAgg ty).run P w = .ok true w) (hso : ∀ w, (sizeOf ty).run P w = .ok vs.size w) :
    ∀ e ∈ (loadVar ty ⟨g, 0, none⟩).events P w #[], RdB g e := by
  intro e h2
  unfold loadVar at h2
  rw [Sem.events_bind] at h2
  rw [hag] at h2
  simp only [events_isAgg] at h2
  replace h2 : e ∈ (sizeOf ty >>= fun n => loadCells ⟨g, 0, none⟩ n >>= fun cs => (pure (.agg cs) : Sem Value)).events P w #[] := h2
  rw [Sem.events_bind, hso] at h2
  simp only [events_sizeOf] at h2
  replace h2 : e ∈ (loadCells ⟨g, 0, none⟩ vs.size >>= fun cs => (pure (.agg cs) : Sem Value)).events P w #[] := h2
  rw [Sem.events_bind] at h2
  cases hl : (loadCells ⟨g, 0, none⟩ vs.size).run P w with
  | halt hh w' => rw [hl] at h2; exact loadCells_in g vs t hg _ (Nat.le_refl _) e h2
  | ok cs' w' => rw [hl] at h2; exact loadCells_in g vs t hg _ (Nat.le_refl _) e h2
theorem results_row_in {fn : Func} {p : Tmp} {t ty : TypeId} {g : Nat} {vs : Array Value} {d : TypeDesc} {tmps : Array Value} (h : fn.results = #[.cell p ty]) (hp : tmps.getD p undef = .pointer (some ⟨g, 0, none⟩)) (hg : w.heap[g]? = some (.cells vs t)) (hu : P.underlying ty = some d) (hd : (match d with | .struct _ | .array _ _ => true | _ => false) = true) (hi : (P.info? ty).map (·.size) = some vs.size) (hag : ∀ w, (isAgg ty).run P w = .ok true w) (hso : ∀ w, (sizeOf ty).run P w = .ok vs.size w) :
    ∀ e ∈ (results fn tmps).events P w #[], RdB g e := by
  intro e he
  have hp' : tmps[p]?.getD undef = .pointer (some ⟨g, 0, none⟩) := by simpa using hp
  have hr := run_loadVar_row (P := P) w g t ty vs (0, 0) d hg hu hd hi
  apply loadVar_row_in hg hu hd hi hag hso e
  simpa [results, h, hp', asAddr, hr] using he
end

section
variable [Payload] {st : MSt} {w : World}
theorem dm_law (hl : st.tag = .law) (o : Obj) : DM st w (w.alloc o) #[] := ⟨by simp, fun h => absurd hl h, fun b hb _ => heap_alloc_ne _ _ hb, by simp⟩
theorem Farm.KF.lower {w0 w : World} {X : List (Nat × Obj)} {grp : Nat → Prop} (h : KF w0 [] X grp w) : KF w0 X [] grp w := ⟨h.tape, h.os, h.output, h.low, h.objs, fun _ x => absurd x List.not_mem_nil, h.gl⟩
end

/-- How 'moved' leaves the starter. -/
structure MovedOut (w0 : World) (st0 : MSt) (c : Frame) (cs : List Frame) (L : List Int) (st : MSt) (g : Goroutine) (w : World) : Prop where
  tag : st.tag = .law
  d : st.d = 0
  g : g = G (c.finish (.agg (VL L))) cs
  tape : w.tape = w0.tape
  os : w.os = w0.os
  output : w.output = w0.output
  low : ∀ b, b < w0.heap.size → w.heap[b]? = w0.heap[b]?
  size : w0.heap.size ≤ w.heap.size
  gs : st.gs = st0.gs + 4
  may : ∀ b, st0.may b → (b < w0.heap.size ∨ w.heap.size ≤ b) → st.may b
  grp : ∀ b, st.grp b → b < w.heap.size
  g0 : ∀ b, st.grp b → b < w0.heap.size → st0.grp b
  mz : ∀ b, st.may b → ¬ st.zone b ∧ ¬ st.grp b

section
variable {w0 : World} {B2 B3 B4 B5 B9 wg : Nat} {Lv Lp : List Int} {z : Array Value} {grp chs may : Nat → Prop} {gs0 : Nat} {cl : List Nat} {cs : List Frame} {c : Frame} {wg0 bd0 : Nat} {grp0 may0 zone0 chs0 : Nat → Prop} {q0 : Nat → List Value}

/-- The starter's state ahead. -/
abbrev stE (wg0 bd0 gs0 : Nat) (grp0 may0 zone0 chs0 : Nat → Prop) (q0 : Nat → List Value) : MSt := ⟨.law, 0, wg0, bd0, gs0, grp0, may0, zone0, chs0, q0⟩

set_option maxRecDepth 100000 in
set_option maxHeartbeats 16000000 in
/-- ████ THE WAIT, AND THE RETURN. ████ -/
theorem afterRecv {L : List Int} (hLl : L.length = 24) (hL : Lay w0 B2 B3 B4 B5 wg) (hB9 : wg < B9) (hgw : grp wg) (hz : z.size = 24) (hgb : ∀ b, grp b → ¬ (w0.heap.size ≤ b ∧ b < wg)) (hg0 : ∀ b, grp b → b < w0.heap.size → grp0 b) (hmz : ∀ b, may0 b → ¬ zone0 b ∧ ¬ grp0 b) (hm4 : may0 B4)
    (q : Nat → List Value) (w : World) (v7 v8 v11 v12 v13 v14 v15 v16 v17 v18 v19 v20 v21 v22 v25 v26 v27 v28 v29 v30 v31 v32 v33 v34 v35 v36 : Value) (hm : may B9 ∧ ∀ b, may b → ¬ grp b) (hF : KF w0 (loB B2 B3 B4 B5 Lv Lp z cl) [(B9, .cells (VL (L)) 36)] grp w ∧ WgLive 71 wg w) :
    Goes Tryz.prog true (ROf 71 ⟨.opn false, 0, wg, 4, (gs0 + 4), grp, may, (fun b => zone0 b ∨ (w0.heap.size ≤ b ∧ b ≠ B4)), chs, q⟩) (DM ⟨.opn false, 0, wg, 4, (gs0 + 4), grp, may, (fun b => zone0 b ∨ (w0.heap.size ≤ b ∧ b ≠ B4)), chs, q⟩) (fun g w => g.status = .running ∧ MStop Tryz.prog 71 (MovedOut w0 (stE wg0 bd0 gs0 grp0 may0 zone0 chs0 q0) c cs L) (Sc Tryz.prog 71 (MovedOut w0 (stE wg0 bd0 gs0 grp0 may0 zone0 chs0 q0) c cs L) (19)) ⟨.opn false, 0, wg, 4, (gs0 + 4), grp, may, (fun b => zone0 b ∨ (w0.heap.size ≤ b ∧ b ≠ B4)), chs, q⟩ g w) 40 (G (b14.at ⟨#[.agg (VL Lv), .agg (VL Lp), .pointer (some ⟨B2, 0, none⟩), .pointer (some ⟨B3, 0, none⟩), .pointer (some ⟨B4, 0, none⟩), .pointer (some ⟨B5, 0, none⟩), .pointer (some ⟨wg, 0, none⟩), v7, v8, .pointer (some ⟨B9, 0, none⟩), undef, v11, v12, v13, v14, v15, v16, v17, v18, v19, v20, v21, v22, .agg (chA cl), .int .i64 (4 : Int), v25, v26, v27, v28, v29, v30, v31, v32, v33, v34, v35, v36, undef, undef], []⟩ [.code LM2, .inLoop LM2, .inBlock 2, .code RM2]) (c :: cs)) w := by
  have hs := hL.le
  have hle : w0.heap.size ≤ B2 ∧ B2 < B3 ∧ B3 < B4 ∧ B4 < B5 ∧ B5 < wg := by have h2 := hL.h2; have h3 := hL.h3; have h4 := hL.h4; have h5 := hL.h5; have hw := hL.hw; omega
  have fm : ∀ {w w₁ : World}, KF w0 (loB B2 B3 B4 B5 Lv Lp z cl) [(B9, .cells (VL (L)) 36)] grp w ∧ WgLive 71 wg w → ROf 71 ⟨.opn false, 0, wg, 4, (gs0 + 4), grp, may, (fun b => zone0 b ∨ (w0.heap.size ≤ b ∧ b ≠ B4)), chs, q⟩ w w₁ → KF w0 (loB B2 B3 B4 B5 Lv Lp z cl) [(B9, .cells (VL (L)) 36)] grp w₁ ∧ WgLive 71 wg w₁ := fun hh rr => kf_of (st := ⟨.opn false, 0, wg, 4, (gs0 + 4), grp, may, (fun b => zone0 b ∨ (w0.heap.size ≤ b ∧ b ≠ B4)), chs, q⟩) (by simp) hs (lo_lt hL _) (by intro p hp; simp only [List.mem_cons, List.not_mem_nil, or_false] at hp; subst hp; exact .inl hm.1) hh rr
  simp only [LM2, RM2, RM1, bodyM, Tryz.f17, Option.getD_some]
  refine goes_join (n := 37) (m := 3) dm_nil (ROf.refl _ _) ?_
  u_c stepG_seq fm hF
  u_reg fm hF
  u_op fm hF
  u_c stepG_region_end fm hF
  u_c stepG_seq fm hF
  u_cond false fm hF
  u_exit fm hF
  u_c stepG_seq fm hF
  u_reg fm hF
  u_call wgL.f_wait (nm_wait lnk) waitFn fm hF
  refine Goes.stop (fun w₁ h₁ => ?_)
  replace hF := fm hF h₁
  clear h₁
  have hA := @waitFarm payV lnk Tryz.prog (MovedOut w0 (stE wg0 bd0 gs0 grp0 may0 zone0 chs0 q0) c cs L) wg (gs0 + 4) grp may (fun b => zone0 b ∨ (w0.heap.size ≤ b ∧ b ≠ B4)) chs q (KF w0 (loB B2 B3 B4 B5 Lv Lp z cl) [(B9, .cells (VL (L)) 36)] grp) 0 (fun B b => may0 b ∧ (b < w0.heap.size ∨ b = B4 ∨ B ≤ b)) (fun B b => (zone0 b ∨ (w0.heap.size ≤ b ∧ b ≠ B4)) ∧ b < B)
  simp only [body_wait, waitFn, Option.getD_some] at hA
  refine hA wgL (bd := 4) (by omega) (fun h => hm.2 _ h hgw) hgw (fun w w' rr hh => kf_rm hs (lo_lt hL _) (by intro p hp; simp only [List.mem_cons, List.not_mem_nil, or_false] at hp; subst hp; exact .inl hm.1) hh rr) (fun B b h1 h2 => ⟨h1, h2⟩) (fun w hF b hb => ?_) ?_ _ hF
  · obtain ⟨h1, h2⟩ := hb
    refine ⟨fun hx => ?_, fun hx => ?_⟩
    · rcases h2 with h2 | h2 | h2
      · exact hx.1.elim (hmz b h1).1 fun y => by omega
      · exact hx.1.elim (hmz b h1).1 fun y => y.2 h2
      · exact absurd hx.2 (by omega)
    · rcases h2 with h2 | h2 | h2
      · exact (hmz b h1).2 (hg0 b hx h2)
      · exact hgb b hx ⟨by omega, by omega⟩
      · exact absurd (hF.gl b hx) (by omega)
  clear hA hF fm
  refine ⟨4 + (1 + (1 + (3 + 1))), fun bd B w hF hB => ?_⟩
  replace hF := And.intro hF hB
  clear hB
  have fm : ∀ {w w₁ : World}, KF w0 (loB B2 B3 B4 B5 Lv Lp z cl) [(B9, .cells (VL (L)) 36)] grp w ∧ w.heap.size = B → ROf 71 ⟨.law, 0, wg, bd, gs0 + 4, grp, (fun B b => may0 b ∧ (b < w0.heap.size ∨ b = B4 ∨ B ≤ b)) B, (fun B b => (zone0 b ∨ (w0.heap.size ≤ b ∧ b ≠ B4)) ∧ b < B) B, chs, q⟩ w w₁ → KF w0 (loB B2 B3 B4 B5 Lv Lp z cl) [(B9, .cells (VL (L)) 36)] grp w₁ ∧ w₁.heap.size = B := fun hh rr => ⟨kf_law rfl hh.1 rr, by obtain ⟨d, rfl⟩ := rr.1 rfl; exact hh.2⟩
  refine goes_join (n := 4) (m := 6) dm_nil (ROf.refl _ _) ?_
  walk_nrm
  u_c stepG_region_end fm hF
  u_c stepG_seq fm hF
  u_reg fm hF
  refine Goes.stop (fun w₁ h₁ => ?_)
  replace hF := fm hF h₁
  clear h₁
  refine Goes.step rfl (fun w₁ h₁ => ?_)
  replace hF := fm hF h₁
  clear h₁
  have h9 := hF.1.objs (B9, .cells (VL L) 36) (by simp)
  have n9 : ¬ grp B9 := hm.2 _ hm.1
  have n4 : ¬ grp B4 := fun h => hgb _ h ⟨by omega, by omega⟩
  refine goes_ex (stepG_loadR (vs := VL L) rfl rfl (by k_ne) rfl rfl h9 Tryz.underlying36 rfl (vInfoL _ hLl) Tryz.isAgg36 (fun w => by rw [VL_size, hLl]; exact szV w)) fun es hes => ⟨dm_read hes n9 (lt_of_some' h9), ?_⟩
  clear es hes h9
  walk_nrm
  refine Goes.step rfl (fun w₁ h₁ => ?_)
  replace hF := fm hF h₁
  clear h₁
  clear fm
  have h4 := hF.1.lo (B4, .cells z 36) (by simp)
  refine goes_ex (stepG_storeR (vs := VL L) rfl rfl (by k_ne) rfl rfl rfl h4 (vInfoL _ hLl) (by rw [VL_size, hLl, hz]) (VL_all _) (fun w => by rw [VL_size, hLl]; exact szV w)) fun es hes => ⟨dm_setRow hes ⟨hm4, .inr (.inl rfl)⟩ n4 (lt_of_some' h4), ?_⟩
  clear es hes
  have ht := turn_row (vs := VL L) h4
  replace hF : KF w0 [(B4, .cells (VL L) 36)] [] grp (w₁.setRow B4 (VL L)) ∧ (w₁.setRow B4 (VL L)).heap.size = B :=
    ⟨hF.1.turn ht.1 ht.2.1 ht.2.2 (by omega) (by simp) (by simp), by rw [ht.1.2.2.2]; exact hF.2⟩
  clear h4 ht
  generalize w₁.setRow _ _ = w₂ at hF ⊢
  have fm : ∀ {w w₁ : World}, KF w0 [(B4, .cells (VL L) 36)] [] grp w ∧ w.heap.size = B → ROf 71 ⟨.law, 0, wg, bd, gs0 + 4, grp, (fun B b => may0 b ∧ (b < w0.heap.size ∨ b = B4 ∨ B ≤ b)) B, (fun B b => (zone0 b ∨ (w0.heap.size ≤ b ∧ b ≠ B4)) ∧ b < B) B, chs, q⟩ w w₁ → KF w0 [(B4, .cells (VL L) 36)] [] grp w₁ ∧ w₁.heap.size = B := fun hh rr => ⟨kf_law rfl hh.1 rr, by obtain ⟨d, rfl⟩ := rr.1 rfl; exact hh.2⟩
  refine goes_join (n := 3) (m := 1) dm_nil (ROf.refl _ _) ?_
  walk_nrm
  u_c stepG_region_end fm hF
  u_c stepG_ret' fm hF
  refine Goes.stop (fun w₁ h₁ => ?_)
  replace hF := fm hF h₁
  clear h₁
  refine Goes.step rfl (fun w₁ h₁ => ?_)
  replace hF := fm hF h₁
  clear h₁
  have h4 := hF.1.lo (B4, .cells (VL L) 36) (by simp)
  rw [stepG_leaveE rfl rfl Tryz.func17 (results_cell_row (p := 4) (ty := 36) rfl _ _ B4 36 _ (0, 0) _ rfl h4 Tryz.underlying36 rfl (vInfoL _ hLl))]
  simp only [goes_go]
  refine ⟨dm_read (g := B4) (fun e he => results_row_in (p := 4) (ty := 36) rfl rfl h4 Tryz.underlying36 rfl (vInfoL _ hLl) Tryz.isAgg36 (fun w => by rw [VL_size, hLl]; exact szV w) e (mem_seen he)) n4 (lt_of_some' h4), ?_⟩
  clear h4
  refine Goes.stop (fun w₁ h₁ => ?_)
  replace hF := fm hF h₁
  clear h₁ fm
  refine ⟨rfl, .cont rfl rfl ⟨rfl, rfl, rfl, hF.1.tape, hF.1.os, hF.1.output, hF.1.low, ?_, rfl, fun b hb h => ⟨hb, h.imp id fun h => .inr (by omega)⟩, hF.1.gl, hg0, fun b hb => ?_⟩⟩
  · have := lt_of_some' (hF.1.lo (B4, .cells (VL L) 36) (by simp))
    simp only at this
    omega
  · obtain ⟨h1, h2⟩ := hb
    refine ⟨fun hx => ?_, fun hx => ?_⟩
    · rcases h2 with h2 | h2 | h2
      · exact hx.1.elim (hmz b h1).1 fun y => by omega
      · exact hx.1.elim (hmz b h1).1 fun y => y.2 h2
      · exact absurd hx.2 (by omega)
    · rcases h2 with h2 | h2 | h2
      · exact (hmz b h1).2 (hg0 b hx h2)
      · exact hgb b hx ⟨by omega, by omega⟩
      · exact absurd (hF.1.gl b hx) (by omega)

end

end Go.Proofs.YtiodikflmijhkaaGreatDoor
end

section
set_option linter.unusedSectionVars false
set_option linter.unusedVariables false
set_option linter.unusedSimpArgs false
namespace Go.Proofs.YtiodikflmijhkaaGreatDoor
open Go.Conc Go.ConcN Go.RowKit Go.Conc.Lib Go.ConcR.Gen Go.ConcN.Gen Farm
open Go.ConcR (KK wgBlock WgAt stA smA rd wr mk Payload Aside2 DC0)

section
variable {w0 : World} {B2 B3 B4 B5 wg : Nat} {Lv Lp : List Int} {z : Array Value} {grp chs : Nat → Prop} {q : Nat → List Value} {gs0 : Nat} {cl : List Nat} {cs : List Frame} {c : Frame} {wg0 bd0 : Nat} {grp0 may0 zone0 chs0 : Nat → Prop} {q0 : Nat → List Value}

theorem zero24 : (Value.agg #[.int .i64 0, .int .i64 0, .int .i64 0, .int .i64 0, .int .i64 0, .int .i64 0, .int .i64 0, .int .i64 0, .int .i64 0, .int .i64 0, .int .i64 0, .int .i64 0, .int .i64 0, .int .i64 0, .int .i64 0, .int .i64 0, .int .i64 0, .int .i64 0, .int .i64 0, .int .i64 0, .int .i64 0, .int .i64 0, .int .i64 0, .int .i64 0]).cells = VL (accL Lv Lp 0) := rfl
set_option maxRecDepth 100000 in
set_option maxHeartbeats 16000000 in
/-- ████ BEHIND THE WORKERS' START. ████ -/
theorem afterRows (hL : Lay w0 B2 B3 B4 B5 wg) (hz : z.size = 24) (hLp : Lp.length = 24) (hp : ∀ x ∈ Lp, 0 ≤ x ∧ x < 24) (hmz : ∀ b, may0 b → ¬ zone0 b ∧ ¬ grp0 b) (hm4 : may0 B4)
    (w : World) (v7 v8 v14 v15 v16 v17 v18 v19 v20 v21 v22 : Value) (h4 : cl.length = 4) (hI : LI w0 grp0 wg Lv Lp cl grp chs q) (hF : KF w0 (loB B2 B3 B4 B5 Lv Lp z cl) [] grp w ∧ WgLive 71 wg w) :
    Goes Tryz.prog true (ROf 71 ⟨.opn false, 0, wg, 4, (gs0 + 4), grp, (fun b => b = B4 ∨ b = B5), (fun b => zone0 b ∨ (w0.heap.size ≤ b ∧ b ≠ B4)), chs, q⟩) (DM ⟨.opn false, 0, wg, 4, (gs0 + 4), grp, (fun b => b = B4 ∨ b = B5), (fun b => zone0 b ∨ (w0.heap.size ≤ b ∧ b ≠ B4)), chs, q⟩) (fun g w => g.status = .running ∧ MStop Tryz.prog 71 (MovedOut w0 (stE wg0 bd0 gs0 grp0 may0 zone0 chs0 q0) c cs (mvL Lv Lp)) (Sc Tryz.prog 71 (MovedOut w0 (stE wg0 bd0 gs0 grp0 may0 zone0 chs0 q0) c cs (mvL Lv Lp)) (72)) ⟨.opn false, 0, wg, 4, (gs0 + 4), grp, (fun b => b = B4 ∨ b = B5), (fun b => zone0 b ∨ (w0.heap.size ≤ b ∧ b ≠ B4)), chs, q⟩ g w) 14 (G (b14.at ⟨#[.agg (VL Lv), .agg (VL Lp), .pointer (some ⟨B2, 0, none⟩), .pointer (some ⟨B3, 0, none⟩), .pointer (some ⟨B4, 0, none⟩), .pointer (some ⟨B5, 0, none⟩), .pointer (some ⟨wg, 0, none⟩), v7, v8, undef, undef, undef, undef, .int .i64 (4 : Int), v14, v15, v16, v17, v18, v19, v20, v21, v22, undef, undef, undef, undef, undef, undef, undef, undef, undef, undef, undef, undef, undef, undef, undef, undef], []⟩ [.code LM1, .inLoop LM1, .inBlock 0, .code RM1]) (c :: cs)) w := by
  have hs := hL.le
  have hle : w0.heap.size ≤ B2 ∧ B2 < B3 ∧ B3 < B4 ∧ B4 < B5 ∧ B5 < wg := by have h2 := hL.h2; have h3 := hL.h3; have h4 := hL.h4; have h5 := hL.h5; have hw := hL.hw; omega
  have fm : ∀ {w w₁ : World}, KF w0 (loB B2 B3 B4 B5 Lv Lp z cl) [] grp w ∧ WgLive 71 wg w → ROf 71 ⟨.opn false, 0, wg, 4, (gs0 + 4), grp, (fun b => b = B4 ∨ b = B5), (fun b => zone0 b ∨ (w0.heap.size ≤ b ∧ b ≠ B4)), chs, q⟩ w w₁ → KF w0 (loB B2 B3 B4 B5 Lv Lp z cl) [] grp w₁ ∧ WgLive 71 wg w₁ := fun hh rr => kf_of (st := ⟨.opn false, 0, wg, 4, (gs0 + 4), grp, (fun b => b = B4 ∨ b = B5), (fun b => zone0 b ∨ (w0.heap.size ≤ b ∧ b ≠ B4)), chs, q⟩) (by simp) hs (lo_lt hL _) (by simp) hh rr
  have hR := fun (B9 : Nat) (hB9 : wg < B9) (may : Nat → Prop) (w : World) (v7 v8 v11 v12 v13 v14 v15 v16 v17 v18 v19 v20 v21 v22 v25 v26 v27 v28 v29 v30 v31 v32 v33 v34 v35 v36 : Value) (hm : may B9 ∧ ∀ b, may b → ¬ grp b) (hF : KF w0 (loB B2 B3 B4 B5 Lv Lp z cl) [(B9, .cells (VL (accL Lv Lp 0)) 36)] grp w ∧ WgLive 71 wg w) => rowsLoop (Post := (MovedOut w0 (stE wg0 bd0 gs0 grp0 may0 zone0 chs0 q0) c cs (mvL Lv Lp))) (w0 := w0) (z := z) (Z := (fun b => zone0 b ∨ (w0.heap.size ≤ b ∧ b ≠ B4))) (gs0 := gs0) (cs := c :: cs) (cl := cl) (Lv := Lv) (N := 19) hL hB9 hI.gw hLp hp h4 hI.cc hI.nd (fun may' q' w v7 v8 v11 v12 v13 v14 v15 v16 v17 v18 v19 v20 v21 v22 v25 v26 v27 v28 v29 v30 v31 v32 v33 v34 v35 v36 hm hF => afterRecv (L := accL Lv Lp 4) (accL_len Lv Lp 4) hL hB9 hI.gw hz hI.gb hI.g0 hmz hm4 q' w v7 v8 v11 v12 v13 v14 v15 v16 v17 v18 v19 v20 v21 v22 v25 v26 v27 v28 v29 v30 v31 v32 v33 v34 v35 v36 hm hF) 4 0 may q w v7 v8 v11 v12 v13 v14 v15 v16 v17 v18 v19 v20 v21 v22 v25 v26 v27 v28 v29 v30 v31 v32 v33 v34 v35 v36 rfl hm (fun i c' hc' _ => hI.qs i c' hc') hF
  simp only [LM1, LM2, RM2, RM1, bodyM, Tryz.f17, Option.getD_some] at hR ⊢
  refine goes_join (n := 14) (m := 0) dm_nil (ROf.refl _ _) ?_
  u_c stepG_seq fm hF
  u_reg fm hF
  u_op fm hF
  u_c stepG_region_end fm hF
  u_c stepG_seq fm hF
  u_cond false fm hF
  u_exit fm hF
  u_c stepG_seq fm hF
  u_reg fm hF
  refine Goes.stop (fun w₁ h₁ => ?_)
  replace hF := fm hF h₁
  clear h₁
  refine Goes.stop (fun w₁ h₁ => ?_)
  replace hF := fm hF h₁
  clear h₁
  clear fm
  have hsz := live_lt hF.2
  refine ⟨rfl, mstop_alloc rfl rfl (by k_ne) rfl Tryz.zeroValue36 ?_⟩
  have n9 : ¬ grp w₁.heap.size := fun h => Nat.lt_irrefl _ (hF.1.gl _ h)
  replace hF : KF w0 (loB B2 B3 B4 B5 Lv Lp z cl) [(w₁.heap.size, .cells (Value.agg #[.int .i64 0, .int .i64 0, .int .i64 0, .int .i64 0, .int .i64 0, .int .i64 0, .int .i64 0, .int .i64 0, .int .i64 0, .int .i64 0, .int .i64 0, .int .i64 0, .int .i64 0, .int .i64 0, .int .i64 0, .int .i64 0, .int .i64 0, .int .i64 0, .int .i64 0, .int .i64 0, .int .i64 0, .int .i64 0, .int .i64 0, .int .i64 0]).cells 36)] grp (w₁.alloc (.cells (Value.agg #[.int .i64 0, .int .i64 0, .int .i64 0, .int .i64 0, .int .i64 0, .int .i64 0, .int .i64 0, .int .i64 0, .int .i64 0, .int .i64 0, .int .i64 0, .int .i64 0, .int .i64 0, .int .i64 0, .int .i64 0, .int .i64 0, .int .i64 0, .int .i64 0, .int .i64 0, .int .i64 0, .int .i64 0, .int .i64 0, .int .i64 0, .int .i64 0]).cells 36)) ∧ WgLive 71 wg (w₁.alloc (.cells (Value.agg #[.int .i64 0, .int .i64 0, .int .i64 0, .int .i64 0, .int .i64 0, .int .i64 0, .int .i64 0, .int .i64 0, .int .i64 0, .int .i64 0, .int .i64 0, .int .i64 0, .int .i64 0, .int .i64 0, .int .i64 0, .int .i64 0, .int .i64 0, .int .i64 0, .int .i64 0, .int .i64 0, .int .i64 0, .int .i64 0, .int .i64 0, .int .i64 0]).cells 36)) := ⟨hF.1.alloc (by omega) _, live_alloc' hF.2⟩
  revert hF n9 hsz
  rw [zero24 (Lv := Lv) (Lp := Lp)]
  show _ → _ → _ → Sc Tryz.prog _ _ _ _ _ (w₁.alloc (.cells (VL (accL Lv Lp 0)) 36))
  generalize w₁.alloc (.cells (VL (accL Lv Lp 0)) 36) = w₂
  generalize w₁.heap.size = B9
  intro hsz n9 hF
  have fm : ∀ {w w₁ : World}, KF w0 (loB B2 B3 B4 B5 Lv Lp z cl) [(B9, .cells (VL (accL Lv Lp 0)) 36)] grp w ∧ WgLive 71 wg w → ROf 71 ⟨.opn false, 0, wg, 4, (gs0 + 4), grp, (fun b => (b = B4 ∨ b = B5) ∨ b = B9), (fun b => zone0 b ∨ (w0.heap.size ≤ b ∧ b ≠ B4)), chs, q⟩ w w₁ → KF w0 (loB B2 B3 B4 B5 Lv Lp z cl) [(B9, .cells (VL (accL Lv Lp 0)) 36)] grp w₁ ∧ WgLive 71 wg w₁ := fun hh rr => kf_of (st := ⟨.opn false, 0, wg, 4, (gs0 + 4), grp, (fun b => (b = B4 ∨ b = B5) ∨ b = B9), (fun b => zone0 b ∨ (w0.heap.size ≤ b ∧ b ≠ B4)), chs, q⟩) (by simp) hs (lo_lt hL _) (by intro p hp; simp only [List.mem_cons, List.not_mem_nil, or_false] at hp; subst hp; exact .inl (.inr rfl)) hh rr
  walk_nrm
  refine ⟨4 + (1 + (4 + 40)), ?_⟩
  refine goes_join (n := 4) (m := 45) dm_nil (ROf.refl _ _) ?_
  u_c stepG_region_end fm hF
  u_c stepG_seq fm hF
  u_c stepG_seq fm hF
  u_reg fm hF
  refine Goes.stop (fun w₁ h₁ => ?_)
  replace hF := fm hF h₁
  clear h₁
  refine Goes.step rfl (fun w₁ h₁ => ?_)
  replace hF := fm hF h₁
  clear h₁
  have h5' := hF.1.lo (B5, .cells (chA cl) 62) (by simp)
  have hcs : (chA cl).size = 4 := by simp [chA, h4]
  refine goes_ex (stepG_loadR (vs := chA cl) rfl rfl (by k_ne) rfl rfl h5' Tryz.underlying62 rfl (by rw [hcs]; kernel_rfl) Tryz.isAgg62 (fun w => by rw [hcs]; exact Tryz.sizeOf62 w)) fun es hes => ⟨dm_read hes (fun h => hI.gb _ h ⟨by omega, by omega⟩) (lt_of_some' h5'), ?_⟩
  clear es hes h5' hcs
  refine goes_join (n := 4) (m := 40) dm_nil (ROf.refl _ _) ?_
  walk_nrm
  u_op fm hF
  u_c stepG_region_end fm hF
  u_c stepG_block fm hF
  u_c stepG_loop fm hF
  refine Goes.stop (fun w₁ h₁ => ?_)
  replace hF := fm hF h₁
  clear h₁
  refine hR B9 (by omega) (fun b => (b = B4 ∨ b = B5) ∨ b = B9) _ _ _ _ _ _ _ _ _ _ _ _ _ _ _ _ _ _ _ _ _ _ _ _ _ _ _ ⟨.inr rfl, fun b hb => ?_⟩ hF
  rcases hb with (rfl | rfl) | rfl
  · exact fun h => hI.gb _ h ⟨by omega, by omega⟩
  · exact fun h => hI.gb _ h ⟨by omega, by omega⟩
  · exact n9

end

end Go.Proofs.YtiodikflmijhkaaGreatDoor
end

section
set_option linter.unusedSectionVars false
set_option linter.unusedVariables false
set_option linter.unusedSimpArgs false
namespace Go.Proofs.YtiodikflmijhkaaGreatDoor
open Go.Conc Go.ConcN Go.RowKit Go.Conc.Lib Go.ConcR.Gen Go.ConcN.Gen Farm
open Go.ConcR (KK wgBlock WgAt stA smA rd wr mk Payload Aside2 DC0)

section
variable {w0 : World} {Lv Lp : List Int} {gs0 : Nat} {cs : List Frame} {c : Frame} {wg0 bd0 : Nat} {grp0 may0 zone0 chs0 : Nat → Prop} {q0 : Nat → List Value}

set_option maxRecDepth 100000 in
set_option maxHeartbeats 16000000 in
/-- ████ 'moved', WHOLE. ████ -/
theorem movedSc (hLv : Lv.length = 24) (hLp : Lp.length = 24) (hp : ∀ x ∈ Lp, 0 ≤ x ∧ x < 24) (hgs : gs0 + 4 < 1000) (hfr : ∀ b, w0.heap.size ≤ b → may0 b) (hmz : ∀ b, may0 b → ¬ zone0 b ∧ ¬ grp0 b) (hgl : ∀ b, grp0 b → b < w0.heap.size) :
    Sc Tryz.prog 71 (MovedOut w0 (stE wg0 bd0 gs0 grp0 may0 zone0 chs0 q0) c cs (mvL Lv Lp)) 102 (stE wg0 bd0 gs0 grp0 may0 zone0 chs0 q0) (G (b14.at ⟨#[.agg (VL Lv), .agg (VL Lp), undef, undef, undef, undef, undef, undef, undef, undef, undef, undef, undef, undef, undef, undef, undef, undef, undef, undef, undef, undef, undef, undef, undef, undef, undef, undef, undef, undef, undef, undef, undef, undef, undef, undef, undef, undef, undef], []⟩ [.code bodyM]) (c :: cs)) w0 := by
  have hF : KF w0 [] [] grp0 w0 ∧ w0.heap.size = w0.heap.size + 0 := ⟨⟨rfl, rfl, rfl, fun _ _ => rfl, by simp, by simp, hgl⟩, rfl⟩
  refine ⟨2 + (1 + (1 + (1 + (3 + (1 + (4 + 0)))))), ?_⟩
  simp only [bodyM, Tryz.f17, Option.getD_some]
  have fm : ∀ {w w₁ : World}, KF w0 [] [] grp0 w ∧ w.heap.size = w0.heap.size + 0 → ROf 71 (stE wg0 bd0 gs0 grp0 may0 zone0 chs0 q0) w w₁ → KF w0 [] [] grp0 w₁ ∧ w₁.heap.size = w0.heap.size + 0 := fun hh rr => ⟨kf_law rfl hh.1 rr, by obtain ⟨d, rfl⟩ := rr.1 rfl; exact hh.2⟩
  refine goes_join (n := 2) (m := 11) dm_nil (ROf.refl _ _) ?_
  u_c stepG_seq fm hF
  u_reg fm hF
  refine Goes.stop (fun w₁ h₁ => ?_)
  replace hF := fm hF h₁
  clear h₁
  refine Goes.step rfl (fun w₁ h₁ => ?_)
  replace hF := fm hF h₁
  clear h₁
  rw [stepG_box (x := .tmp 0) rfl rfl (by k_ne) rfl]
  simp only [goes_go]
  refine ⟨dm_law rfl _, ?_⟩
  walk_nrm
  show Goes _ _ _ _ _ _ _ (w₁.alloc (.cells (VL Lv) 36))
  replace hF : KF w0 [] ((w₁.heap.size, .cells (VL Lv) 36) :: []) grp0 (w₁.alloc (.cells (VL Lv) 36)) ∧ (w₁.alloc (.cells (VL Lv) 36)).heap.size = w0.heap.size + 1 := ⟨hF.1.alloc (by omega) _, by simp [hF.2]⟩
  have hb : w₁.heap.size = w0.heap.size + 0 := by have := hF.2; simp at this; omega
  revert hF hb
  generalize w₁.alloc (.cells (VL Lv) 36) = w₂
  generalize w₁.heap.size = B2
  intro hF h2
  clear fm
  have fm : ∀ {w w₁ : World}, KF w0 [] [(B2, .cells (VL Lv) 36)] grp0 w ∧ w.heap.size = w0.heap.size + 1 → ROf 71 (stE wg0 bd0 gs0 grp0 may0 zone0 chs0 q0) w w₁ → KF w0 [] [(B2, .cells (VL Lv) 36)] grp0 w₁ ∧ w₁.heap.size = w0.heap.size + 1 := fun hh rr => ⟨kf_law rfl hh.1 rr, by obtain ⟨d, rfl⟩ := rr.1 rfl; exact hh.2⟩
  refine Goes.step rfl (fun w₁ h₁ => ?_)
  replace hF := fm hF h₁
  clear h₁
  rw [stepG_box (x := .tmp 1) rfl rfl (by k_ne) rfl]
  simp only [goes_go]
  refine ⟨dm_law rfl _, ?_⟩
  walk_nrm
  show Goes _ _ _ _ _ _ _ (w₁.alloc (.cells (VL Lp) 39))
  replace hF : KF w0 [] ((w₁.heap.size, .cells (VL Lp) 39) :: [(B2, .cells (VL Lv) 36)]) grp0 (w₁.alloc (.cells (VL Lp) 39)) ∧ (w₁.alloc (.cells (VL Lp) 39)).heap.size = w0.heap.size + 2 := ⟨hF.1.alloc (by omega) _, by simp [hF.2]⟩
  have hb : w₁.heap.size = w0.heap.size + 1 := by have := hF.2; simp at this; omega
  revert hF hb
  generalize w₁.alloc (.cells (VL Lp) 39) = w₂
  generalize w₁.heap.size = B3
  intro hF h3
  clear fm
  have fm : ∀ {w w₁ : World}, KF w0 [] [(B3, .cells (VL Lp) 39), (B2, .cells (VL Lv) 36)] grp0 w ∧ w.heap.size = w0.heap.size + 2 → ROf 71 (stE wg0 bd0 gs0 grp0 may0 zone0 chs0 q0) w w₁ → KF w0 [] [(B3, .cells (VL Lp) 39), (B2, .cells (VL Lv) 36)] grp0 w₁ ∧ w₁.heap.size = w0.heap.size + 2 := fun hh rr => ⟨kf_law rfl hh.1 rr, by obtain ⟨d, rfl⟩ := rr.1 rfl; exact hh.2⟩
  refine Goes.step rfl (fun w₁ h₁ => ?_)
  replace hF := fm hF h₁
  clear h₁
  rw [stepG_alloc rfl rfl (by k_ne) rfl Tryz.zeroValue36]
  simp only [goes_go]
  refine ⟨dm_law rfl _, ?_⟩
  walk_nrm
  show Goes _ _ _ _ _ _ _ (w₁.alloc (.cells (VL (accL Lv Lp 0)) 36))
  replace hF : KF w0 [] ((w₁.heap.size, .cells (VL (accL Lv Lp 0)) 36) :: [(B3, .cells (VL Lp) 39), (B2, .cells (VL Lv) 36)]) grp0 (w₁.alloc (.cells (VL (accL Lv Lp 0)) 36)) ∧ (w₁.alloc (.cells (VL (accL Lv Lp 0)) 36)).heap.size = w0.heap.size + 3 := ⟨hF.1.alloc (by omega) _, by simp [hF.2]⟩
  have hb : w₁.heap.size = w0.heap.size + 2 := by have := hF.2; simp at this; omega
  revert hF hb
  generalize w₁.alloc (.cells (VL (accL Lv Lp 0)) 36) = w₂
  generalize w₁.heap.size = B4
  intro hF h4
  clear fm
  have fm : ∀ {w w₁ : World}, KF w0 [] [(B4, .cells (VL (accL Lv Lp 0)) 36), (B3, .cells (VL Lp) 39), (B2, .cells (VL Lv) 36)] grp0 w ∧ w.heap.size = w0.heap.size + 3 → ROf 71 (stE wg0 bd0 gs0 grp0 may0 zone0 chs0 q0) w w₁ → KF w0 [] [(B4, .cells (VL (accL Lv Lp 0)) 36), (B3, .cells (VL Lp) 39), (B2, .cells (VL Lv) 36)] grp0 w₁ ∧ w₁.heap.size = w0.heap.size + 3 := fun hh rr => ⟨kf_law rfl hh.1 rr, by obtain ⟨d, rfl⟩ := rr.1 rfl; exact hh.2⟩
  refine goes_join (n := 3) (m := 5) dm_nil (ROf.refl _ _) ?_
  u_c stepG_region_end fm hF
  u_c stepG_seq fm hF
  u_reg fm hF
  refine Goes.stop (fun w₁ h₁ => ?_)
  replace hF := fm hF h₁
  clear h₁
  refine Goes.step rfl (fun w₁ h₁ => ?_)
  replace hF := fm hF h₁
  clear h₁
  rw [stepG_alloc rfl rfl (by k_ne) rfl Tryz.zeroValue62]
  simp only [goes_go]
  refine ⟨dm_law rfl _, ?_⟩
  walk_nrm
  show Goes _ _ _ _ _ _ _ (w₁.alloc (.cells (chA []) 62))
  replace hF : KF w0 [] ((w₁.heap.size, .cells (chA []) 62) :: [(B4, .cells (VL (accL Lv Lp 0)) 36), (B3, .cells (VL Lp) 39), (B2, .cells (VL Lv) 36)]) grp0 (w₁.alloc (.cells (chA []) 62)) ∧ (w₁.alloc (.cells (chA []) 62)).heap.size = w0.heap.size + 4 := ⟨hF.1.alloc (by omega) _, by simp [hF.2]⟩
  have hb : w₁.heap.size = w0.heap.size + 3 := by have := hF.2; simp at this; omega
  revert hF hb
  generalize w₁.alloc (.cells (chA []) 62) = w₂
  generalize w₁.heap.size = B5
  intro hF h5
  clear fm
  have fm : ∀ {w w₁ : World}, KF w0 [] [(B5, .cells (chA []) 62), (B4, .cells (VL (accL Lv Lp 0)) 36), (B3, .cells (VL Lp) 39), (B2, .cells (VL Lv) 36)] grp0 w ∧ w.heap.size = w0.heap.size + 4 → ROf 71 (stE wg0 bd0 gs0 grp0 may0 zone0 chs0 q0) w w₁ → KF w0 [] [(B5, .cells (chA []) 62), (B4, .cells (VL (accL Lv Lp 0)) 36), (B3, .cells (VL Lp) 39), (B2, .cells (VL Lv) 36)] grp0 w₁ ∧ w₁.heap.size = w0.heap.size + 4 := fun hh rr => ⟨kf_law rfl hh.1 rr, by obtain ⟨d, rfl⟩ := rr.1 rfl; exact hh.2⟩
  refine goes_join (n := 4) (m := 0) dm_nil (ROf.refl _ _) ?_
  u_c stepG_region_end fm hF
  u_c stepG_seq fm hF
  u_reg fm hF
  refine Goes.stop (fun w₁ h₁ => ?_)
  replace hF := fm hF h₁
  clear h₁
  refine Goes.stop (fun w₁ h₁ => ?_)
  replace hF := fm hF h₁
  clear h₁
  clear fm
  refine ⟨rfl, .wg _ (fun b => zone0 b ∨ (w0.heap.size ≤ b ∧ b ≠ B4)) (fun b => b = B4 ∨ b = B5) rfl rfl (stepG_alloc rfl rfl (by k_ne) rfl Tryz.zeroValue71) ?_ ?_ ?_⟩
  · rintro b (h | h)
    · exact .inl h
    · exact .inr ⟨by omega, by omega⟩
  · rintro b (rfl | rfl)
    · exact ⟨hfr _ (by omega), by omega⟩
    · exact ⟨hfr _ (by omega), by omega⟩
  have hw : w₁.heap.size = w0.heap.size + 4 := hF.2
  have hG : KF w0 (loB B2 B3 B4 B5 Lv Lp (VL (accL Lv Lp 0)) []) [] (fun b => grp0 b ∨ b = w₁.heap.size) (w₁.alloc (wgBlock 71 0 0)) := (((hF.1.allocG (by omega) (wgBlock 71 0 0)).drop (X' := (loB B2 B3 B4 B5 Lv Lp (VL (accL Lv Lp 0)) [])) (fun p hp => by
    simp only [List.mem_cons, List.not_mem_nil, or_false] at hp ⊢
    rcases hp with rfl | rfl | rfl | rfl <;> simp))).lower
  replace hF : KF w0 (loB B2 B3 B4 B5 Lv Lp (VL (accL Lv Lp 0)) []) [] (fun b => grp0 b ∨ b = w₁.heap.size) (w₁.alloc (wgBlock 71 0 0)) ∧ WgLive 71 w₁.heap.size (w₁.alloc (wgBlock 71 0 0)) := ⟨hG, 0, 0, heap_alloc_new _ _⟩
  clear hG
  revert hF hw
  show _ → _ → Sc Tryz.prog _ _ _ _ _ (w₁.alloc (wgBlock 71 0 0))
  generalize w₁.alloc (wgBlock 71 0 0) = w₂
  generalize w₁.heap.size = wg
  intro hw hF
  have hL : Lay w0 B2 B3 B4 B5 wg := ⟨h2, h3, h4, h5, hw⟩
  have hs := hL.le
  have hI : LI w0 grp0 wg Lv Lp [] (fun b => grp0 b ∨ b = wg) (fun _ => False) q0 := ⟨.inr rfl, fun b hb h => hb.elim (fun x => by have := hgl b x; omega) fun e => by omega, fun b hb hlt => hb.elim id fun e => by omega, fun _ h => h.elim, by simp, List.nodup_nil, by simp⟩
  clear h2 h3 h4 h5 hw
  have hR := fun (w : World) (v7 v8 v14 v15 v16 v17 v18 v19 v20 v21 v22 : Value) (hF : KF w0 (loB B2 B3 B4 B5 Lv Lp (VL (accL Lv Lp 0)) []) [] (fun b => grp0 b ∨ b = wg) w ∧ WgLive 71 wg w) => rowLoop (Post := (MovedOut w0 (stE wg0 bd0 gs0 grp0 may0 zone0 chs0 q0) c cs (mvL Lv Lp))) (gs0 := gs0) (cs := c :: cs) (z := VL (accL Lv Lp 0)) (Z := (fun b => zone0 b ∨ (w0.heap.size ≤ b ∧ b ≠ B4))) (grp0 := grp0) (N := 72) hL ⟨.inr ⟨by have := hL.h2; omega, by have := hL.h2; have := hL.h4; omega⟩, .inr ⟨by have := hL.h3; omega, by have := hL.h3; have := hL.h4; omega⟩, fun b hb => .inr ⟨by omega, by have := hL.hw; have := hL.h4; omega⟩⟩ hLv hLp hgs (fun cl grp chs q w v7 v8 v14 v15 v16 v17 v18 v19 v20 v21 v22 h4 hI hF => afterRows hL (by rw [VL_size, accL_len]) hLp hp hmz (hfr _ (by have := hL.h4; omega)) w v7 v8 v14 v15 v16 v17 v18 v19 v20 v21 v22 h4 hI hF) 4 0 [] _ _ q0 w v7 v8 v14 v15 v16 v17 v18 v19 v20 v21 v22 rfl rfl hI hF
  simp only [LM1, RM1, bodyM, Tryz.f17, Option.getD_some] at hR ⊢
  walk_nrm
  refine ⟨8 + 14, ?_⟩
  have fm : ∀ {w w₁ : World}, KF w0 (loB B2 B3 B4 B5 Lv Lp (VL (accL Lv Lp 0)) []) [] (fun b => grp0 b ∨ b = wg) w ∧ WgLive 71 wg w → ROf 71 ⟨.opn false, 0, wg, 0, gs0, (fun b => grp0 b ∨ b = wg), (fun b => b = B4 ∨ b = B5), (fun b => zone0 b ∨ (w0.heap.size ≤ b ∧ b ≠ B4)), (fun _ => False), q0⟩ w w₁ → KF w0 (loB B2 B3 B4 B5 Lv Lp (VL (accL Lv Lp 0)) []) [] (fun b => grp0 b ∨ b = wg) w₁ ∧ WgLive 71 wg w₁ := fun hh rr => kf_of (st := ⟨.opn false, 0, wg, 0, gs0, (fun b => grp0 b ∨ b = wg), (fun b => b = B4 ∨ b = B5), (fun b => zone0 b ∨ (w0.heap.size ≤ b ∧ b ≠ B4)), (fun _ => False), q0⟩) (by simp) hs (lo_lt hL _) (by simp) hh rr
  refine goes_join (n := 8) (m := 14) dm_nil (ROf.refl _ _) ?_
  u_c stepG_region_end fm hF
  u_c stepG_seq fm hF
  u_c stepG_seq fm hF
  u_reg fm hF
  u_op fm hF
  u_c stepG_region_end fm hF
  u_c stepG_block fm hF
  u_c stepG_loop fm hF
  refine Goes.stop (fun w₁ h₁ => ?_)
  replace hF := fm hF h₁
  clear h₁
  exact hR _ _ _ _ _ _ _ _ _ _ _ _ hF

end

end Go.Proofs.YtiodikflmijhkaaGreatDoor
end
