/- Joined texts: G10. -/
import Derived.Test.YtiodikflmijhkaaGreatDoorJ24
import Derived.Test.YtiodikflmijhkaaGreatDoorJ25
set_option linter.unusedSectionVars false
set_option linter.unusedVariables false
set_option linter.unusedSimpArgs false
namespace Go.Proofs.YtiodikflmijhkaaGreatDoor
open Go.Conc Go.ConcN Go.RowKit Go.Conc.Lib Go.ConcR.Gen Go.ConcN.Gen Farm
open Go.ConcR (KK wgBlock WgAt stA smA rd wr mk Payload Aside2 DC0)

abbrev b14 : Frame := base 17
noncomputable def bodyM : Code := Tryz.f17.body.getD .skip
noncomputable def LM1 : Code := match bodyM with | .seq _ (.seq _ (.seq _ (.seq (.seq _ (.block _ (.loop b))) _))) => b | _ => .skip
noncomputable def RM1 : Code := match bodyM with | .seq _ (.seq _ (.seq _ (.seq _ r))) => r | _ => .skip

/-- The rows' channels as they lie in the array. -/
def chA (cl : List Nat) : Array Value := (cl.map (fun c => Value.chan (some c)) ++ List.replicate (4 - cl.length) (Value.chan none)).toArray
theorem chA_at {cl : List Nat} (h : cl.length < 4) : (chA cl)[cl.length]? = some (.chan none) := by
  simp only [chA, List.getElem?_toArray]
  rw [List.getElem?_append_right (by simp), List.length_map, Nat.sub_self, List.getElem?_replicate, if_pos (by omega)]
theorem chA_set {cl : List Nat} {c : Nat} (h : cl.length < 4) : (chA cl).setIfInBounds cl.length (.chan (some c)) = chA (cl ++ [c]) := by
  simp only [chA, List.setIfInBounds_toArray, List.length_append, List.length_cons, List.length_nil]
  congr 1
  rw [List.set_append_right _ _ (by simp)]
  simp only [List.length_map, Nat.sub_self, List.map_append, List.map_cons, List.map_nil, List.append_assoc, List.cons_append, List.nil_append]
  congr 1
  obtain ⟨k, hk⟩ : ∃ k, 4 - cl.length = k + 1 := ⟨4 - cl.length - 1, by omega⟩
  rw [hk, show 4 - (cl.length + (0 + 1)) = k by omega, List.replicate_succ]
  rfl
/-- The blocks made ahead of the group's. -/
abbrev loB (B2 B3 B4 B5 : Nat) (Lv Lp : List Int) (z : Array Value) (cl : List Nat) : List (Nat × Obj) := [(B2, .cells (VL Lv) 36), (B3, .cells (VL Lp) 39), (B4, .cells z 36), (B5, .cells (chA cl) 62)]
/-- Where they lie. -/
structure Lay (w0 : World) (B2 B3 B4 B5 wg : Nat) : Prop where
  h2 : B2 = w0.heap.size
  h3 : B3 = w0.heap.size + 1
  h4 : B4 = w0.heap.size + 2
  h5 : B5 = w0.heap.size + 3
  hw : wg = w0.heap.size + 4
/-- The rows' channels so far. -/
structure LI (w0 : World) (grp0 : Nat → Prop) (wg : Nat) (Lv Lp : List Int) (cl : List Nat) (grp chs : Nat → Prop) (q : Nat → List Value) : Prop where
  gw : grp wg
  gb : ∀ b, grp b → ¬ (w0.heap.size ≤ b ∧ b < wg)
  g0 : ∀ b, grp b → b < w0.heap.size → grp0 b
  cg : ∀ b, chs b → grp b
  cc : ∀ c ∈ cl, chs c
  nd : cl.Nodup
  qs : ∀ j c, cl[j]? = some c → q c = sents Lv Lp j 0 6
section
variable {Post : MSt → Goroutine → World → Prop} {w0 : World} {B2 B3 B4 B5 wg : Nat} {Lv Lp : List Int} {z : Array Value} {Z grp0 grp chs : Nat → Prop} {q : Nat → List Value} {gs0 r c : Nat} {cl : List Nat} {cs : List Frame}
theorem Lay.le (h : Lay w0 B2 B3 B4 B5 wg) : w0.heap.size ≤ wg := by have := h.hw; omega
theorem lo_lt (h : Lay w0 B2 B3 B4 B5 wg) (cl : List Nat) : ∀ p ∈ loB B2 B3 B4 B5 Lv Lp z cl, p.1 < wg := by
  have h2 := h.h2; have h3 := h.h3; have h4 := h.h4; have h5 := h.h5; have hw := h.hw
  intro p hp
  simp only [List.mem_cons, List.not_mem_nil, or_false] at hp
  rcases hp with rfl | rfl | rfl | rfl <;> simp only <;> omega
theorem LI.grow (h : LI w0 grp0 wg Lv Lp cl grp chs q) (hs : w0.heap.size ≤ wg) (hc : wg < c) (hn : ¬ chs c) : LI w0 grp0 wg Lv Lp (cl ++ [c]) (fun b => grp b ∨ b = c) (fun b => chs b ∨ b = c) (upd q c (sents Lv Lp cl.length 0 6)) := by
  have hnc : c ∉ cl := fun x => hn (h.cc c x)
  refine ⟨.inl h.gw, fun b hb => hb.elim (h.gb b) fun e => by omega, fun b hb hlt => hb.elim (fun x => h.g0 b x hlt) fun e => by omega, fun b hb => hb.imp (h.cg b) id, fun x hx => ?_, ?_, fun j x hx => ?_⟩
  · rw [List.mem_append, List.mem_singleton] at hx
    exact hx.imp (h.cc x) id
  · rw [List.nodup_append]
    exact ⟨h.nd, by simp, fun a ha b hb e => hnc (by rw [List.mem_singleton] at hb; rw [← hb, ← e]; exact ha)⟩
  · rcases Nat.lt_trichotomy j cl.length with hj | hj | hj
    · rw [List.getElem?_append_left hj] at hx
      have hm : x ≠ c := fun e => hnc (e ▸ List.mem_of_getElem? hx)
      rw [upd_ne q _ hm]
      exact h.qs j x hx
    · subst hj
      simp at hx
      subst hx
      rw [upd_same]
    · rw [List.getElem?_eq_none (by simp; omega)] at hx; cases hx
theorem idx_c (C : Nat) (k : Nat) (hk : k < 4) (W : World) : (Instr.indexAt 62 (.pointer (some ⟨C, 0, none⟩)) (.int .i64 (k : Int))).run Tryz.prog W = .ok (.pointer (some ⟨C, k, none⟩)) W := by
  match k, hk with
  | 0, _ => exact (show _ = _ by kernel_rfl)
  | 1, _ => exact (show _ = _ by kernel_rfl)
  | 2, _ => exact (show _ = _ by kernel_rfl)
  | 3, _ => exact (show _ = _ by kernel_rfl)
  | n + 4, h => omega
theorem idx_c_ev (C : Nat) (k : Nat) (hk : k < 4) (W : World) : (Instr.indexAt 62 (.pointer (some ⟨C, 0, none⟩)) (.int .i64 (k : Int))).events Tryz.prog W #[] = #[] := by
  match k, hk with
  | 0, _ => exact (show _ = _ by kernel_rfl)
  | 1, _ => exact (show _ = _ by kernel_rfl)
  | 2, _ => exact (show _ = _ by kernel_rfl)
  | 3, _ => exact (show _ = _ by kernel_rfl)
  | n + 4, h => omega
theorem goSpawn {P : Program} {b : Frame} {a : Act} {k : List Item} {cs : List Frame} {w : World} {ops : Array Oper} {i : Nat} {rest : List Nat} {o : Oper} {t : Nat} {f : FuncId} {c : Array Value} (ho : ops[i]? = some o) (hw : Region.wanted o (yielded ops a.tmps) = true) (hk : b.kind ≠ .early)
    (hop : o.op = .go { callee := .value (.tmp t), args := #[], argTypes := #[] }) (ht : a.eval (.tmp t) = .func (.func f) #[] c) :
    stepG P true (G (b.at a (.inRegion ops (i :: rest) :: k)) cs) w = .spawn (G (b.at (a.put o.dst undef) (.inRegion ops rest :: k)) cs) (born P { target := .fn (.func f) c, args := #[] }) w #[] := by
  have he : execOp a.eval o = (pure (.spawn { target := .fn (.func f) c, args := #[] }) : Sem Next) := by unfold execOp; simp [hop, resolve, ht, Deferred.ofValue]
  rw [stepG_spawn ho hw hk (by rw [he]; rfl) rfl, Farm.listed_nil (by rw [he]; rfl)]

set_option maxRecDepth 100000 in
set_option maxHeartbeats 16000000 in
/-- ████ THE ROWS' WORKERS ARE STARTED. ████ -/
theorem rowLoop (hL : Lay w0 B2 B3 B4 B5 wg) (hZ : Z B2 ∧ Z B3 ∧ ∀ b, wg ≤ b → Z b) (hLv : Lv.length = 24) (hLp : Lp.length = 24) (hgs : gs0 + 4 < 1000) {N : Nat}
    (hend : ∀ cl grp chs q w v7 v8 v14 v15 v16 v17 v18 v19 v20 v21 v22, cl.length = 4 → LI w0 grp0 wg Lv Lp cl grp chs q → KF w0 (loB B2 B3 B4 B5 Lv Lp z cl) [] grp w ∧ WgLive 71 wg w →
      Goes Tryz.prog true (ROf 71 ⟨.opn false, 0, wg, 4, (gs0 + 4), grp, (fun b => b = B4 ∨ b = B5), Z, chs, q⟩) (DM ⟨.opn false, 0, wg, 4, (gs0 + 4), grp, (fun b => b = B4 ∨ b = B5), Z, chs, q⟩) (fun g w => g.status = .running ∧ MStop Tryz.prog 71 Post (Sc Tryz.prog 71 Post (N)) ⟨.opn false, 0, wg, 4, (gs0 + 4), grp, (fun b => b = B4 ∨ b = B5), Z, chs, q⟩ g w) 14 (G (b14.at ⟨#[.agg (VL Lv), .agg (VL Lp), .pointer (some ⟨B2, 0, none⟩), .pointer (some ⟨B3, 0, none⟩), .pointer (some ⟨B4, 0, none⟩), .pointer (some ⟨B5, 0, none⟩), .pointer (some ⟨wg, 0, none⟩), v7, v8, undef, undef, undef, undef, .int .i64 (4 : Int), v14, v15, v16, v17, v18, v19, v20, v21, v22, undef, undef, undef, undef, undef, undef, undef, undef, undef, undef, undef, undef, undef, undef, undef, undef], []⟩ [.code LM1, .inLoop LM1, .inBlock 0, .code RM1]) cs) w) :
    ∀ n r cl grp chs q w v7 v8 v14 v15 v16 v17 v18 v19 v20 v21 v22, r + n = 4 → cl.length = r → LI w0 grp0 wg Lv Lp cl grp chs q → KF w0 (loB B2 B3 B4 B5 Lv Lp z cl) [] grp w ∧ WgLive 71 wg w →
      Goes Tryz.prog true (ROf 71 ⟨.opn false, 0, wg, r, (gs0 + r), grp, (fun b => b = B4 ∨ b = B5), Z, chs, q⟩) (DM ⟨.opn false, 0, wg, r, (gs0 + r), grp, (fun b => b = B4 ∨ b = B5), Z, chs, q⟩) (fun g w => g.status = .running ∧ MStop Tryz.prog 71 Post (Sc Tryz.prog 71 Post (N + 7 * n)) ⟨.opn false, 0, wg, r, (gs0 + r), grp, (fun b => b = B4 ∨ b = B5), Z, chs, q⟩ g w) 14 (G (b14.at ⟨#[.agg (VL Lv), .agg (VL Lp), .pointer (some ⟨B2, 0, none⟩), .pointer (some ⟨B3, 0, none⟩), .pointer (some ⟨B4, 0, none⟩), .pointer (some ⟨B5, 0, none⟩), .pointer (some ⟨wg, 0, none⟩), v7, v8, undef, undef, undef, undef, .int .i64 (r : Int), v14, v15, v16, v17, v18, v19, v20, v21, v22, undef, undef, undef, undef, undef, undef, undef, undef, undef, undef, undef, undef, undef, undef, undef, undef], []⟩ [.code LM1, .inLoop LM1, .inBlock 0, .code RM1]) cs) w := by
  intro n
  induction n with
  | zero =>
    intro r cl grp chs q w v7 v8 v14 v15 v16 v17 v18 v19 v20 v21 v22 hr hc hI hF
    obtain rfl : r = 4 := by omega
    exact hend cl grp chs q w v7 v8 v14 v15 v16 v17 v18 v19 v20 v21 v22 hc hI hF
  | succ n ih =>
  intro r cl grp chs q w v7 v8 v14 v15 v16 v17 v18 v19 v20 v21 v22 hr hc hI hF
  have hs := hL.le
  have hle : w0.heap.size ≤ B2 ∧ B2 < B3 ∧ B3 < B4 ∧ B4 < B5 ∧ B5 < wg := by have h2 := hL.h2; have h3 := hL.h3; have h4 := hL.h4; have h5 := hL.h5; have hw := hL.hw; omega
  have hlt : ((r : Int) < 4) = True := eq_true (by omega)
  rw [show N + 7 * (n + 1) = N + 7 * n + 1 + 1 + 1 + 1 + 1 + 1 + 1 by omega]
  have fm : ∀ {w w₁ : World}, KF w0 (loB B2 B3 B4 B5 Lv Lp z cl) [] grp w ∧ WgLive 71 wg w → ROf 71 ⟨.opn false, 0, wg, r, (gs0 + r), grp, (fun b => b = B4 ∨ b = B5), Z, chs, q⟩ w w₁ → KF w0 (loB B2 B3 B4 B5 Lv Lp z cl) [] grp w₁ ∧ WgLive 71 wg w₁ := fun hh rr => kf_of (st := ⟨.opn false, 0, wg, r, (gs0 + r), grp, (fun b => b = B4 ∨ b = B5), Z, chs, q⟩) (by simp) hs (lo_lt hL _) (by simp) hh rr
  refine goes_join (n := 14) (m := 0) dm_nil (ROf.refl _ _) ?_
  simp only [LM1, bodyM, Tryz.f17, Option.getD_some]
  u_c stepG_seq fm hF
  u_reg fm hF
  u_op fm hF
  u_c stepG_region_end fm hF
  u_c stepG_seq fm hF
  u_cond true fm hF
  u_c stepG_skip fm hF
  u_c stepG_seq fm hF
  u_c stepG_block fm hF
  u_c stepG_seq fm hF
  u_reg fm hF
  u_op fm hF
  refine Goes.stop (fun w₁ h₁ => ?_)
  replace hF := fm hF h₁
  clear h₁
  refine Goes.stop (fun w₁ h₁ => ?_)
  replace hF := fm hF h₁
  clear h₁
  clear fm
  have hsz := live_lt hF.2
  refine ⟨rfl, mstop_alloc rfl rfl (by k_ne) rfl Tryz.zeroValue3 ?_⟩
  have n7 : ¬ grp w₁.heap.size := fun h => Nat.lt_irrefl _ (hF.1.gl _ h)
  replace hF : KF w0 (loB B2 B3 B4 B5 Lv Lp z cl) [(w₁.heap.size, .cells #[.int .i64 0] 3)] grp (w₁.alloc (.cells #[.int .i64 0] 3)) ∧ WgLive 71 wg (w₁.alloc (.cells #[.int .i64 0] 3)) := ⟨hF.1.alloc (by omega) _, live_alloc' hF.2⟩
  have hB : wg < w₁.heap.size := hsz
  revert hF n7 hB
  show _ → _ → _ → Sc Tryz.prog _ _ _ _ _ (w₁.alloc (.cells #[.int .i64 0] 3))
  generalize w₁.alloc (.cells #[.int .i64 0] 3) = w₂
  generalize w₁.heap.size = B7
  intro n7 hF hB
  -- the box is filled
  have fm : ∀ {w w₁ : World}, KF w0 (loB B2 B3 B4 B5 Lv Lp z cl) [(B7, .cells #[.int .i64 0] 3)] grp w ∧ WgLive 71 wg w → ROf 71 ⟨.opn false, 0, wg, r, (gs0 + r), grp, (fun b => (b = B4 ∨ b = B5) ∨ b = B7), Z, chs, q⟩ w w₁ → KF w0 (loB B2 B3 B4 B5 Lv Lp z cl) [(B7, .cells #[.int .i64 0] 3)] grp w₁ ∧ WgLive 71 wg w₁ := fun hh rr => kf_of (st := ⟨.opn false, 0, wg, r, (gs0 + r), grp, (fun b => (b = B4 ∨ b = B5) ∨ b = B7), Z, chs, q⟩) (by simp) hs (lo_lt hL _) (by intro p hp; simp only [List.mem_cons, List.not_mem_nil, or_false] at hp; subst hp; exact .inl (.inr rfl)) hh rr
  walk_nrm
  refine ⟨1 + 20, ?_⟩
  refine Goes.step rfl (fun w₁ h₁ => ?_)
  replace hF := fm hF h₁
  clear h₁
  clear fm
  have h7 := hF.1.objs (B7, .cells #[.int .i64 0] 3) (by simp)
  refine goes_ex (stepG_store1 (v := .int .i64 (r : Int)) rfl rfl (by k_ne) rfl rfl rfl rfl (_root_.Go.Lib.cell_of_heap h7 0) (_root_.Go.Lib.frozen_of_heap h7 0) Tryz.sizeOf3) fun es hes => ⟨dm_set hes (.inr rfl) n7 (lt_of_some' h7), ?_⟩
  clear es hes
  have ht := turn_cell (j := 0) (v := .int .i64 (r : Int)) h7
  replace hF : KF w0 (loB B2 B3 B4 B5 Lv Lp z cl) [(B7, .cells #[.int .i64 (r : Int)] 3)] grp (w₁.setCell ⟨B7, 0, none⟩ (.int .i64 (r : Int))) ∧ WgLive 71 wg (w₁.setCell ⟨B7, 0, none⟩ (.int .i64 (r : Int))) :=
    ⟨hF.1.turn ht.1 ht.2.1 ht.2.2 (by omega) (fun p hp => .inl (by simpa using hp)) fun p hp => .inr ⟨hp, by have := lo_lt hL _ p hp; omega⟩, live_turn ht.2.1 (by omega) hF.2⟩
  clear h7 ht
  generalize w₁.setCell _ _ = w₂ at hF ⊢
  have fm : ∀ {w w₁ : World}, KF w0 (loB B2 B3 B4 B5 Lv Lp z cl) [(B7, .cells #[.int .i64 (r : Int)] 3)] grp w ∧ WgLive 71 wg w → ROf 71 ⟨.opn false, 0, wg, r, (gs0 + r), grp, (fun b => (b = B4 ∨ b = B5) ∨ b = B7), Z, chs, q⟩ w w₁ → KF w0 (loB B2 B3 B4 B5 Lv Lp z cl) [(B7, .cells #[.int .i64 (r : Int)] 3)] grp w₁ ∧ WgLive 71 wg w₁ := fun hh rr => kf_of (st := ⟨.opn false, 0, wg, r, (gs0 + r), grp, (fun b => (b = B4 ∨ b = B5) ∨ b = B7), Z, chs, q⟩) (by simp) hs (lo_lt hL _) (by intro p hp; simp only [List.mem_cons, List.not_mem_nil, or_false] at hp; subst hp; exact .inl (.inr rfl)) hh rr
  refine goes_join (n := 10) (m := 10) dm_nil (ROf.refl _ _) ?_
  walk_nrm
  u_c stepG_region_end fm hF
  u_c stepG_seq fm hF
  u_reg fm hF
  refine Goes.stop (fun w₁ h₁ => ?_)
  replace hF := fm hF h₁
  clear h₁
  refine Goes.stop (fun w₁ h₁ => ?_)
  replace hF := fm hF h₁
  clear h₁
  clear fm
  have hsz := live_lt hF.2
  have h7lt : B7 < w₁.heap.size := lt_of_some' (hF.1.objs (B7, .cells #[.int .i64 (r : Int)] 3) (by simp))
  refine ⟨rfl, mstop_chan (n := 6) rfl rfl (by k_ne) rfl Tryz.underlying61 rfl (by omega) (by decide) ?_⟩
  have hc1 : ¬ chs w₁.heap.size := fun h => Nat.lt_irrefl _ (hF.1.gl _ (hI.cg _ h))
  replace hF : KF w0 (loB B2 B3 B4 B5 Lv Lp z cl) [(w₁.heap.size, .chan 6 #[] false 0 0 false), (B7, .cells #[.int .i64 (r : Int)] 3)] (fun b => grp b ∨ b = w₁.heap.size) (w₁.alloc (.chan 6 #[] false 0 0 false)) ∧ WgLive 71 wg (w₁.alloc (.chan 6 #[] false 0 0 false)) := ⟨hF.1.allocG (by omega) _, live_alloc' hF.2⟩
  have hc2 : wg < w₁.heap.size := hsz
  revert hF hc1 hc2 h7lt
  show _ → _ → _ → _ → Sc Tryz.prog _ _ _ _ _ (w₁.alloc (.chan 6 #[] false 0 0 false))
  generalize w₁.alloc (.chan 6 #[] false 0 0 false) = w₂
  generalize w₁.heap.size = c
  intro h7c hc1 hF hc2
  have fm : ∀ {w w₁ : World}, KF w0 (loB B2 B3 B4 B5 Lv Lp z cl) [(c, .chan 6 #[] false 0 0 false), (B7, .cells #[.int .i64 (r : Int)] 3)] (fun b => grp b ∨ b = c) w ∧ WgLive 71 wg w → ROf 71 ⟨.opn false, 0, wg, r, (gs0 + r), (fun b => grp b ∨ b = c), (fun b => (b = B4 ∨ b = B5) ∨ b = B7), Z, chs, q⟩ w w₁ → KF w0 (loB B2 B3 B4 B5 Lv Lp z cl) [(c, .chan 6 #[] false 0 0 false), (B7, .cells #[.int .i64 (r : Int)] 3)] (fun b => grp b ∨ b = c) w₁ ∧ WgLive 71 wg w₁ := fun hh rr => kf_of (st := ⟨.opn false, 0, wg, r, (gs0 + r), (fun b => grp b ∨ b = c), (fun b => (b = B4 ∨ b = B5) ∨ b = B7), Z, chs, q⟩) (by simp) hs (lo_lt hL _) (by intro p hp; simp only [List.mem_cons, List.not_mem_nil, or_false] at hp; rcases hp with rfl | rfl; exact .inr ⟨.inr rfl, hc1, hc2⟩; exact .inl (.inr rfl)) hh rr
  refine ⟨2 + 0, ?_⟩
  refine goes_join (n := 2) (m := 0) dm_nil (ROf.refl _ _) ?_
  walk_nrm
  refine Goes.stop (fun w₁ h₁ => ?_)
  replace hF := fm hF h₁
  clear h₁
  refine Goes.stop (fun w₁ h₁ => ?_)
  replace hF := fm hF h₁
  clear h₁
  clear fm
  have hsz := live_lt hF.2
  have hclt : c < w₁.heap.size := lt_of_some' (hF.1.objs (c, .chan 6 #[] false 0 0 false) (by simp))
  refine ⟨rfl, mstop_alloc rfl rfl (by k_ne) rfl Tryz.zeroValue61 ?_⟩
  have n8 : ¬ (grp w₁.heap.size ∨ w₁.heap.size = c) := fun h => Nat.lt_irrefl _ (hF.1.gl _ h)
  replace hF : KF w0 (loB B2 B3 B4 B5 Lv Lp z cl) [(w₁.heap.size, .cells #[.chan none] 61), (c, .chan 6 #[] false 0 0 false), (B7, .cells #[.int .i64 (r : Int)] 3)] (fun b => grp b ∨ b = c) (w₁.alloc (.cells #[.chan none] 61)) ∧ WgLive 71 wg (w₁.alloc (.cells #[.chan none] 61)) := ⟨hF.1.alloc (by omega) _, live_alloc' hF.2⟩
  have hB8 : wg < w₁.heap.size := hsz
  revert hF n8 hB8 hclt
  show _ → _ → _ → _ → Sc Tryz.prog _ _ _ _ _ (w₁.alloc (.cells #[.chan none] 61))
  generalize w₁.alloc (.cells #[.chan none] 61) = w₂
  generalize w₁.heap.size = B8
  intro h8c n8 hF hB8
  have fm : ∀ {w w₁ : World}, KF w0 (loB B2 B3 B4 B5 Lv Lp z cl) [(B8, .cells #[.chan none] 61), (c, .chan 6 #[] false 0 0 false), (B7, .cells #[.int .i64 (r : Int)] 3)] (fun b => grp b ∨ b = c) w ∧ WgLive 71 wg w → ROf 71 ⟨.opn false, 0, wg, r, (gs0 + r), (fun b => grp b ∨ b = c), (fun b => ((b = B4 ∨ b = B5) ∨ b = B7) ∨ b = B8), Z, chs, q⟩ w w₁ → KF w0 (loB B2 B3 B4 B5 Lv Lp z cl) [(B8, .cells #[.chan none] 61), (c, .chan 6 #[] false 0 0 false), (B7, .cells #[.int .i64 (r : Int)] 3)] (fun b => grp b ∨ b = c) w₁ ∧ WgLive 71 wg w₁ := fun hh rr => kf_of (st := ⟨.opn false, 0, wg, r, (gs0 + r), (fun b => grp b ∨ b = c), (fun b => ((b = B4 ∨ b = B5) ∨ b = B7) ∨ b = B8), Z, chs, q⟩) (by simp) hs (lo_lt hL _) (by intro p hp; simp only [List.mem_cons, List.not_mem_nil, or_false] at hp; rcases hp with rfl | rfl | rfl; exact .inl (.inr rfl); exact .inr ⟨.inr rfl, hc1, hc2⟩; exact .inl (.inl (.inr rfl))) hh rr
  walk_nrm
  refine ⟨1 + (4 + (2 + (2 + (6 + 12)))), ?_⟩
  refine Goes.step rfl (fun w₁ h₁ => ?_)
  replace hF := fm hF h₁
  clear h₁
  clear fm
  have h8 := hF.1.objs (B8, .cells #[.chan none] 61) (by simp)
  refine goes_ex (stepG_store1 (v := .chan (some c)) rfl rfl (by k_ne) rfl rfl rfl rfl (_root_.Go.Lib.cell_of_heap h8 0) (_root_.Go.Lib.frozen_of_heap h8 0) Tryz.sizeOf61) fun es hes => ⟨dm_set hes (.inr rfl) n8 (lt_of_some' h8), ?_⟩
  clear es hes
  have ht := turn_cell (j := 0) (v := .chan (some c)) h8
  replace hF : KF w0 (loB B2 B3 B4 B5 Lv Lp z cl) [(B8, .cells #[.chan (some c)] 61), (c, .chan 6 #[] false 0 0 false), (B7, .cells #[.int .i64 (r : Int)] 3)] (fun b => grp b ∨ b = c) (w₁.setCell ⟨B8, 0, none⟩ (.chan (some c))) ∧ WgLive 71 wg (w₁.setCell ⟨B8, 0, none⟩ (.chan (some c))) :=
    ⟨hF.1.turn ht.1 ht.2.1 ht.2.2 (by omega) (fun p hp => by
      simp only [List.mem_cons, List.not_mem_nil, or_false] at hp ⊢
      rcases hp with rfl | rfl | rfl
      · exact .inl rfl
      · exact .inr ⟨.inr (.inl rfl), by simp only; omega⟩
      · exact .inr ⟨.inr (.inr rfl), by simp only; omega⟩) fun p hp => .inr ⟨hp, by have := lo_lt hL _ p hp; omega⟩, live_turn ht.2.1 (by omega) hF.2⟩
  clear h8 ht
  generalize w₁.setCell _ _ = w₂ at hF ⊢
  have fm : ∀ {w w₁ : World}, KF w0 (loB B2 B3 B4 B5 Lv Lp z cl) [(B8, .cells #[.chan (some c)] 61), (c, .chan 6 #[] false 0 0 false), (B7, .cells #[.int .i64 (r : Int)] 3)] (fun b => grp b ∨ b = c) w ∧ WgLive 71 wg w → ROf 71 ⟨.opn false, 0, wg, r, (gs0 + r), (fun b => grp b ∨ b = c), (fun b => ((b = B4 ∨ b = B5) ∨ b = B7) ∨ b = B8), Z, chs, q⟩ w w₁ → KF w0 (loB B2 B3 B4 B5 Lv Lp z cl) [(B8, .cells #[.chan (some c)] 61), (c, .chan 6 #[] false 0 0 false), (B7, .cells #[.int .i64 (r : Int)] 3)] (fun b => grp b ∨ b = c) w₁ ∧ WgLive 71 wg w₁ := fun hh rr => kf_of (st := ⟨.opn false, 0, wg, r, (gs0 + r), (fun b => grp b ∨ b = c), (fun b => ((b = B4 ∨ b = B5) ∨ b = B7) ∨ b = B8), Z, chs, q⟩) (by simp) hs (lo_lt hL _) (by intro p hp; simp only [List.mem_cons, List.not_mem_nil, or_false] at hp; rcases hp with rfl | rfl | rfl; exact .inl (.inr rfl); exact .inr ⟨.inr rfl, hc1, hc2⟩; exact .inl (.inl (.inr rfl))) hh rr
  refine goes_join (n := 4) (m := 22) dm_nil (ROf.refl _ _) ?_
  walk_nrm
  u_c stepG_region_end fm hF
  u_c stepG_seq fm hF
  u_reg fm hF
  refine Goes.stop (fun w₁ h₁ => ?_)
  replace hF := fm hF h₁
  clear h₁
  refine Goes.step rfl (fun w₁ h₁ => ?_)
  replace hF := fm hF h₁
  clear h₁
  have h7 := hF.1.objs (B7, .cells #[.int .i64 (r : Int)] 3) (by simp)
  refine goes_ex (stepG_load1 (ty := 3) (ad := ⟨B7, 0, none⟩) (v := .int .i64 (r : Int)) rfl rfl (by k_ne) rfl rfl (_root_.Go.Lib.cell_of_heap h7 0) Tryz.isAgg3) fun es hes => ⟨dm_read hes (fun h => h.elim n7 fun e => absurd (show B7 = c from e) (by omega)) (lt_of_some' h7), ?_⟩
  clear es hes h7
  walk_nrm
  refine Goes.step rfl (fun w₁ h₁ => ?_)
  replace hF := fm hF h₁
  clear h₁
  have h8 := hF.1.objs (B8, .cells #[.chan (some c)] 61) (by simp)
  refine goes_ex (stepG_load1 (ty := 61) (ad := ⟨B8, 0, none⟩) (v := .chan (some c)) rfl rfl (by k_ne) rfl rfl (_root_.Go.Lib.cell_of_heap h8 0) Tryz.isAgg61) fun es hes => ⟨dm_read hes n8 (lt_of_some' h8), ?_⟩
  clear es hes h8
  walk_nrm
  refine Goes.step rfl (fun w₁ h₁ => ?_)
  replace hF := fm hF h₁
  clear h₁
  rw [stepG_idx (g := B5) (n := r) (v := .int .i64 (r : Int)) rfl rfl (by k_ne) rfl rfl rfl (idx_c B5 r (by omega) _) (idx_c_ev B5 r (by omega) _)]
  simp only [goes_go]
  refine ⟨dm_nil _, ?_⟩
  walk_nrm
  refine Goes.step rfl (fun w₁ h₁ => ?_)
  replace hF := fm hF h₁
  clear h₁
  clear fm
  have n5 : ¬ (grp B5 ∨ B5 = c) := fun h => h.elim (fun x => hI.gb _ x ⟨by omega, by omega⟩) fun e => by omega
  have h5' := hF.1.lo (B5, .cells (chA cl) 62) (by simp)
  refine goes_ex (stepG_store1 (v := .chan (some c)) (u := .chan none) (ad := ⟨B5, r, none⟩) rfl rfl (by k_ne) rfl rfl rfl rfl ((_root_.Go.Lib.cell_of_heap h5' r).trans (by rw [← hc]; exact chA_at (by omega))) (_root_.Go.Lib.frozen_of_heap h5' r) Tryz.sizeOf61) fun es hes => ⟨dm_set hes (.inl (.inl (.inr rfl))) n5 (lt_of_some' h5'), ?_⟩
  clear es hes
  have ht := turn_cell (j := r) (v := .chan (some c)) h5'
  rw [show (chA cl).setIfInBounds r (.chan (some c)) = chA (cl ++ [c]) by rw [← hc]; exact chA_set (by omega)] at ht
  replace hF : KF w0 (loB B2 B3 B4 B5 Lv Lp z (cl ++ [c])) [(B8, .cells #[.chan (some c)] 61), (c, .chan 6 #[] false 0 0 false), (B7, .cells #[.int .i64 (r : Int)] 3)] (fun b => grp b ∨ b = c) (w₁.setCell ⟨B5, r, none⟩ (.chan (some c))) ∧ WgLive 71 wg (w₁.setCell ⟨B5, r, none⟩ (.chan (some c))) :=
    ⟨hF.1.turn ht.1 ht.2.1 ht.2.2 (by omega) (fun p hp => .inr ⟨hp, by
      simp only [List.mem_cons, List.not_mem_nil, or_false] at hp
      rcases hp with rfl | rfl | rfl <;> simp only <;> omega⟩) fun p hp => by
        simp only [List.mem_cons, List.not_mem_nil, or_false] at hp ⊢
        rcases hp with rfl | rfl | rfl | rfl
        · exact .inr ⟨.inl rfl, by simp only; omega⟩
        · exact .inr ⟨.inr (.inl rfl), by simp only; omega⟩
        · exact .inr ⟨.inr (.inr (.inl rfl)), by simp only; omega⟩
        · exact .inl rfl, live_turn ht.2.1 (by omega) hF.2⟩
  clear h5' ht
  generalize w₁.setCell _ _ = w₂ at hF ⊢
  have fm : ∀ {w w₁ : World}, KF w0 (loB B2 B3 B4 B5 Lv Lp z (cl ++ [c])) [(B8, .cells #[.chan (some c)] 61), (c, .chan 6 #[] false 0 0 false), (B7, .cells #[.int .i64 (r : Int)] 3)] (fun b => grp b ∨ b = c) w ∧ WgLive 71 wg w → ROf 71 ⟨.opn false, 0, wg, r, (gs0 + r), (fun b => grp b ∨ b = c), (fun b => ((b = B4 ∨ b = B5) ∨ b = B7) ∨ b = B8), Z, chs, q⟩ w w₁ → KF w0 (loB B2 B3 B4 B5 Lv Lp z (cl ++ [c])) [(B8, .cells #[.chan (some c)] 61), (c, .chan 6 #[] false 0 0 false), (B7, .cells #[.int .i64 (r : Int)] 3)] (fun b => grp b ∨ b = c) w₁ ∧ WgLive 71 wg w₁ := fun hh rr => kf_of (st := ⟨.opn false, 0, wg, r, (gs0 + r), (fun b => grp b ∨ b = c), (fun b => ((b = B4 ∨ b = B5) ∨ b = B7) ∨ b = B8), Z, chs, q⟩) (by simp) hs (lo_lt hL _) (by intro p hp; simp only [List.mem_cons, List.not_mem_nil, or_false] at hp; rcases hp with rfl | rfl | rfl; exact .inl (.inr rfl); exact .inr ⟨.inr rfl, hc1, hc2⟩; exact .inl (.inl (.inr rfl))) hh rr
  refine goes_join (n := 6) (m := 12) dm_nil (ROf.refl _ _) ?_
  walk_nrm
  u_c stepG_region_end fm hF
  u_c stepG_seq fm hF
  u_reg fm hF
  u_call wgL.f_add (nm_add lnk) addFn fm hF
  refine Goes.stop (fun w₁ h₁ => ?_)
  replace hF := fm hF h₁
  clear h₁
  -- Add
  have hA := @addFarm payV lnk Tryz.prog Post wg r (gs0 + r) (fun b => grp b ∨ b = c) (fun b => ((b = B4 ∨ b = B5) ∨ b = B7) ∨ b = B8) Z chs q (KF w0 (loB B2 B3 B4 B5 Lv Lp z (cl ++ [c])) [(B8, .cells #[.chan (some c)] 61), (c, .chan 6 #[] false 0 0 false), (B7, .cells #[.int .i64 (r : Int)] 3)] (fun b => grp b ∨ b = c)) (N + 7 * n + 1)
  simp only [body_add, addFn, Option.getD_some] at hA
  refine hA wgL (by omega) (by rintro ((h | h) | h) <;> omega) (.inl hI.gw) (fun w w' rr hh => kf_rm hs (lo_lt hL _) (by intro p hp; simp only [List.mem_cons, List.not_mem_nil, or_false] at hp; rcases hp with rfl | rfl | rfl; exact .inl (.inr rfl); exact .inr ⟨.inr rfl, hc1, hc2⟩; exact .inl (.inl (.inr rfl))) hh rr) ?_ _ hF
  clear hA hF fm
  refine ⟨6 + 0, fun w hF hLive => ?_⟩
  replace hF := And.intro hF hLive
  clear hLive
  have fm : ∀ {w w₁ : World}, KF w0 (loB B2 B3 B4 B5 Lv Lp z (cl ++ [c])) [(B8, .cells #[.chan (some c)] 61), (c, .chan 6 #[] false 0 0 false), (B7, .cells #[.int .i64 (r : Int)] 3)] (fun b => grp b ∨ b = c) w ∧ WgLive 71 wg w → ROf 71 ⟨.opn true, 0, wg, (r + 1), (gs0 + r), (fun b => grp b ∨ b = c), (fun b => ((b = B4 ∨ b = B5) ∨ b = B7) ∨ b = B8), Z, chs, q⟩ w w₁ → KF w0 (loB B2 B3 B4 B5 Lv Lp z (cl ++ [c])) [(B8, .cells #[.chan (some c)] 61), (c, .chan 6 #[] false 0 0 false), (B7, .cells #[.int .i64 (r : Int)] 3)] (fun b => grp b ∨ b = c) w₁ ∧ WgLive 71 wg w₁ := fun hh rr => kf_of (st := ⟨.opn true, 0, wg, (r + 1), (gs0 + r), (fun b => grp b ∨ b = c), (fun b => ((b = B4 ∨ b = B5) ∨ b = B7) ∨ b = B8), Z, chs, q⟩) (by simp) hs (lo_lt hL _) (by intro p hp; simp only [List.mem_cons, List.not_mem_nil, or_false] at hp; rcases hp with rfl | rfl | rfl; exact .inl (.inr rfl); exact .inr ⟨.inr rfl, hc1, hc2⟩; exact .inl (.inl (.inr rfl))) hh rr
  refine goes_join (n := 6) (m := 0) dm_nil (ROf.refl _ _) ?_
  walk_nrm
  u_c stepG_region_end fm hF
  u_reg fm hF
  u_op fm hF
  refine Goes.stop (fun w₁ h₁ => ?_)
  replace hF := fm hF h₁
  clear h₁
  refine Goes.stop (fun w₁ h₁ => ?_)
  replace hF := fm hF h₁
  clear h₁
  clear fm
  have hb2 := hF.1.lo (B2, .cells (VL Lv) 36) (by simp)
  have hb3 := hF.1.lo (B3, .cells (VL Lp) 39) (by simp)
  have hb7 := hF.1.objs (B7, .cells #[.int .i64 (r : Int)] 3) (by simp)
  have hb8 := hF.1.objs (B8, .cells #[.chan (some c)] 61) (by simp)
  have hbc := hF.1.objs (c, .chan 6 #[] false 0 0 false) (by simp)
  have ng : ∀ b, w0.heap.size ≤ b → b < wg → ¬ (grp b ∨ b = c) := fun b h1 h2 h => h.elim (fun x => hI.gb _ x ⟨h1, h2⟩) fun e => by omega
  have n7' : ¬ (grp B7 ∨ B7 = c) := fun h => h.elim n7 fun e => by omega
  refine ⟨rfl, .go _ (born Tryz.prog (call21 wg B2 B7 B3 B8)) (fun b => b = B2 ∨ b = B7 ∨ b = B3 ∨ b = B8) c 9 (sents Lv Lp r 0 6) (fun b => b = B4 ∨ b = B5) rfl rfl (goSpawn rfl rfl (by k_ne) rfl rfl) rfl (fun b h => .inl (.inl h)) ?_ hbc (.inr rfl) hc1 hc2 (by simp [sents]) (by omega) (by simp only; omega) (works hLv hLp (by omega) ⟨hb2, hb7, hb3, hb8, hF.2, .inl rfl, .inr (.inl rfl), .inr (.inr (.inl rfl)), .inr (.inr (.inr rfl))⟩) ?_⟩
  · rintro b (rfl | rfl | rfl | rfl)
    · exact ⟨hZ.1, by omega, ng _ (by omega) (by omega), .inl (show _ < wg by omega), _, _, _, hb2⟩
    · exact ⟨hZ.2.2 _ (by omega), by omega, n7', .inr (.inl (.inr rfl)), _, _, _, hb7⟩
    · exact ⟨hZ.2.1, by omega, ng _ (by omega) (by omega), .inl (show _ < wg by omega), _, _, _, hb3⟩
    · exact ⟨hZ.2.2 _ (by omega), by omega, n8, .inr (.inr rfl), _, _, _, hb8⟩
  have hI' := hI.grow (c := c) hs (by omega) hc1
  rw [hc] at hI'
  replace hF : KF w0 (loB B2 B3 B4 B5 Lv Lp z (cl ++ [c])) [] (fun b => grp b ∨ b = c) w₁ ∧ WgLive 71 wg w₁ := ⟨hF.1.drop (by simp), hF.2⟩
  clear hb2 hb3 hb7 hb8 hbc ng n7' n7 n8 hc1
  have fm : ∀ {w w₁ : World}, KF w0 (loB B2 B3 B4 B5 Lv Lp z (cl ++ [c])) [] (fun b => grp b ∨ b = c) w ∧ WgLive 71 wg w → ROf 71 ⟨.opn false, 0, wg, (r + 1), (gs0 + r + 1), (fun b => grp b ∨ b = c), (fun b => b = B4 ∨ b = B5), Z, (fun b => chs b ∨ b = c), (upd q c (sents Lv Lp r 0 6))⟩ w w₁ → KF w0 (loB B2 B3 B4 B5 Lv Lp z (cl ++ [c])) [] (fun b => grp b ∨ b = c) w₁ ∧ WgLive 71 wg w₁ := fun hh rr => kf_of (st := ⟨.opn false, 0, wg, (r + 1), (gs0 + r + 1), (fun b => grp b ∨ b = c), (fun b => b = B4 ∨ b = B5), Z, (fun b => chs b ∨ b = c), (upd q c (sents Lv Lp r 0 6))⟩) (by simp) hs (lo_lt hL _) (by simp) hh rr
  refine ⟨7 + 14, ?_⟩
  have hwr : IntKind.i64.wrap ((r : Int) + 1) = ((r + 1 : Nat) : Int) := by rw [wrap_i64_of _ (by omega) (by omega)]; omega
  have ihk := ih (r + 1) (cl ++ [c]) (fun b => grp b ∨ b = c) (fun b => chs b ∨ b = c) (upd q c (sents Lv Lp r 0 6))
  clear ih hend
  simp only [LM1, RM1, bodyM, Tryz.f17, Option.getD_some] at ihk ⊢
  refine goes_join (n := 7) (m := 14) dm_nil (ROf.refl _ _) ?_
  walk_nrm
  u_c stepG_region_end fm hF
  u_c stepG_inBlock fm hF
  u_reg fm hF
  u_op fm hF
  u_op fm hF
  u_c stepG_region_end fm hF
  u_c stepG_inLoop fm hF
  refine Goes.stop (fun w₁ h₁ => ?_)
  replace hF := fm hF h₁
  clear h₁
  exact ihk _ _ _ _ _ _ _ _ _ _ _ _ (by omega) (by simp [hc]) hI' hF

end

end Go.Proofs.YtiodikflmijhkaaGreatDoor
