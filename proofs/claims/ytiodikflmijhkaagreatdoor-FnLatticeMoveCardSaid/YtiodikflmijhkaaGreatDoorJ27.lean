/- Joined texts: G11 G12. -/
import Derived.Test.YtiodikflmijhkaaGreatDoorJ26
section
set_option linter.unusedSectionVars false
set_option linter.unusedVariables false
set_option linter.unusedSimpArgs false
namespace Go.Proofs.YtiodikflmijhkaaGreatDoor
open Go.Conc Go.ConcN Go.RowKit Go.Conc.Lib Go.ConcR.Gen Go.ConcN.Gen Farm
open Go.ConcR (KK wgBlock WgAt stA smA rd wr mk Payload Aside2 DC0)

noncomputable def LM2 : Code := match RM1 with | .seq _ (.seq (.seq _ (.block _ (.loop b))) _) => b | _ => .skip
noncomputable def RM2 : Code := match RM1 with | .seq _ (.seq _ r) => r | _ => .skip
noncomputable def LM3 : Code := match LM2 with | .seq _ (.seq _ (.seq (.block _ (.seq _ (.seq _ (.block _ (.loop b))))) _)) => b | _ => .skip
noncomputable def RM3 : Code := match LM2 with | .seq _ (.seq _ (.seq _ r)) => r | _ => .skip

/-- One number is laid where it goes. -/
def putL (Lv Lp L : List Int) (i : Nat) : List Int := L.set (Lp.getD i 0).toNat (Lv.getD i 0)
def rowL (Lv Lp acc : List Int) (j k : Nat) : List Int := (List.range k).foldl (fun L i => putL Lv Lp L (4 * i + j)) acc
theorem rowL_succ (Lv Lp acc : List Int) (j k : Nat) : rowL Lv Lp acc j (k + 1) = putL Lv Lp (rowL Lv Lp acc j k) (4 * k + j) := by simp [rowL, List.range_succ, List.foldl_append]
theorem rowL_len (Lv Lp acc : List Int) (j k : Nat) : (rowL Lv Lp acc j k).length = acc.length := by
  induction k with
  | zero => rfl
  | succ k ih => rw [rowL_succ, putL, List.length_set, ih]
theorem VL_put (L : List Int) (n : Nat) (x : Int) : (VL L).setIfInBounds n (.int .i64 x) = VL (L.set n x) := by
  simp [VL, List.map_set]

section
variable {P : Program} {b : Frame} {a : Act} {k : List Item} {cs : List Frame} {w : World} {ops : Array Oper} {i : Nat} {rest : List Nat} {o : Oper}
theorem recvd_t (v : Value) (ok : Bool) : Conc.recvd true v ok = .tuple #[v, .bool ok] := rfl
theorem served_G (v : Value) : Conc.served (G (b.at a (.inRegion ops (i :: rest) :: k)) cs) v = G (b.at (a.put ((ops[i]?).bind (·.dst)) v) (.inRegion ops rest :: k)) cs := by
  show G ((b.at a (.inRegion ops (i :: rest) :: k)).finish v) cs = _
  rw [Frame.finish_at]
theorem stepG_recv {t e : TypeId} {x : Operand} {c : Nat} {dir : ChanDir} {z : Value} (ho : ops[i]? = some o) (hw : Region.wanted o (yielded ops a.tmps) = true) (hk : b.kind ≠ .early) (hop : o.op = .recv t x true) (hx : a.eval x = .chan (some c))
    (ht : P.underlying t = some (.chan dir e)) (hz : ∀ w, (zeroValue e).run P w = .ok z w) :
    stepG P true (G (b.at a (.inRegion ops (i :: rest) :: k)) cs) w = .comm (G (b.at a (.inRegion ops (i :: rest) :: k)) cs) #[rcase c z] true (.recv true) w #[] := by
  have h1 : (execOp a.eval o).run P w = .ok (.comm #[rcase c z] true (.recv true)) w := by
    unfold execOp
    simp only [hop, hx]
    simp [go_sem, rcase, run_underlying ht, hz]
  have h2 : (execOp a.eval o).events P w #[] = #[] := by
    unfold execOp
    simp only [hop, hx]
    simp [go_sem, rcase, run_underlying ht, hz]
  rw [stepG_comm ho hw hk h1, Farm.listed_nil h2]
end

section
variable {Post : MSt → Goroutine → World → Prop} {w0 : World} {B2 B3 B4 B5 B9 wg : Nat} {Lv Lp acc : List Int} {z : Array Value} {Z grp chs may : Nat → Prop} {q0 : Nat → List Value} {gs0 j c : Nat} {cl : List Nat} {cs : List Frame}

set_option maxRecDepth 100000 in
set_option maxHeartbeats 16000000 in
/-- ████ FROM ONE WORKER, UNTIL ITS CHANNEL IS CLOSED. ████ -/
theorem recvLoop (hL : Lay w0 B2 B3 B4 B5 wg) (hB9 : wg < B9) (hgw : grp wg) (hLp : Lp.length = 24) (hp : ∀ x ∈ Lp, 0 ≤ x ∧ x < 24) (hacc : acc.length = 24) (hj : j < 4) (hcc : chs c) {N : Nat}
    (hend : ∀ (may : Nat → Prop) q w v7 v8 v12 v13 v14 v15 v16 v17 v18 v19 v20 v21 v22 v25 v26 v28 v29 v30 v31 v32 v33 v34 v35 v36, (may B9 ∧ ∀ b, may b → ¬ grp b) → q c = [] → (∀ x, x ≠ c → q x = q0 x) → KF w0 (loB B2 B3 B4 B5 Lv Lp z cl) [(B9, .cells (VL (rowL Lv Lp acc j 6)) 36)] grp w ∧ WgLive 71 wg w →
      Goes Tryz.prog true (ROf 71 ⟨.opn false, 0, wg, 4, (gs0 + 4), grp, may, Z, chs, q⟩) (DM ⟨.opn false, 0, wg, 4, (gs0 + 4), grp, may, Z, chs, q⟩) (fun g w => g.status = .running ∧ MStop Tryz.prog 71 Post (Sc Tryz.prog 71 Post (N)) ⟨.opn false, 0, wg, 4, (gs0 + 4), grp, may, Z, chs, q⟩ g w) 60 (G (b14.at ⟨#[.agg (VL Lv), .agg (VL Lp), .pointer (some ⟨B2, 0, none⟩), .pointer (some ⟨B3, 0, none⟩), .pointer (some ⟨B4, 0, none⟩), .pointer (some ⟨B5, 0, none⟩), .pointer (some ⟨wg, 0, none⟩), v7, v8, .pointer (some ⟨B9, 0, none⟩), undef, .chan (some c), v12, v13, v14, v15, v16, v17, v18, v19, v20, v21, v22, .agg (chA cl), .int .i64 (j : Int), v25, v26, .chan (some c), v28, v29, v30, v31, v32, v33, v34, v35, v36, undef, undef], []⟩ [.code RM3, .inLoop LM2, .inBlock 2, .code RM2]) cs) w) :
    ∀ n k (may : Nat → Prop) q w v7 v8 v12 v13 v14 v15 v16 v17 v18 v19 v20 v21 v22 v25 v26 v28 v29 v30 v31 v32 v33 v34 v35 v36, k + n = 6 → (may B9 ∧ ∀ b, may b → ¬ grp b) → q c = sents Lv Lp j k n → (∀ x, x ≠ c → q x = q0 x) → KF w0 (loB B2 B3 B4 B5 Lv Lp z cl) [(B9, .cells (VL (rowL Lv Lp acc j k)) 36)] grp w ∧ WgLive 71 wg w →
      Goes Tryz.prog true (ROf 71 ⟨.opn false, 0, wg, 4, (gs0 + 4), grp, may, Z, chs, q⟩) (DM ⟨.opn false, 0, wg, 4, (gs0 + 4), grp, may, Z, chs, q⟩) (fun g w => g.status = .running ∧ MStop Tryz.prog 71 Post (Sc Tryz.prog 71 Post (N + 1 + 2 * n)) ⟨.opn false, 0, wg, 4, (gs0 + 4), grp, may, Z, chs, q⟩ g w) 14 (G (b14.at ⟨#[.agg (VL Lv), .agg (VL Lp), .pointer (some ⟨B2, 0, none⟩), .pointer (some ⟨B3, 0, none⟩), .pointer (some ⟨B4, 0, none⟩), .pointer (some ⟨B5, 0, none⟩), .pointer (some ⟨wg, 0, none⟩), v7, v8, .pointer (some ⟨B9, 0, none⟩), undef, .chan (some c), v12, v13, v14, v15, v16, v17, v18, v19, v20, v21, v22, .agg (chA cl), .int .i64 (j : Int), v25, v26, .chan (some c), v28, v29, v30, v31, v32, v33, v34, v35, v36, undef, undef], []⟩ (.code LM3 :: [.inLoop LM3, .inBlock 4, .inBlock 3, .code RM3, .inLoop LM2, .inBlock 2, .code RM2])) cs) w := by
  intro n
  induction n with
  | zero =>
    intro k may q w v7 v8 v12 v13 v14 v15 v16 v17 v18 v19 v20 v21 v22 v25 v26 v28 v29 v30 v31 v32 v33 v34 v35 v36 hk hm hq hq0 hF
    obtain rfl : k = 6 := by omega
    have hs := hL.le
    have fm : ∀ {w w₁ : World}, KF w0 (loB B2 B3 B4 B5 Lv Lp z cl) [(B9, .cells (VL (rowL Lv Lp acc j 6)) 36)] grp w ∧ WgLive 71 wg w → ROf 71 ⟨.opn false, 0, wg, 4, (gs0 + 4), grp, may, Z, chs, q⟩ w w₁ → KF w0 (loB B2 B3 B4 B5 Lv Lp z cl) [(B9, .cells (VL (rowL Lv Lp acc j 6)) 36)] grp w₁ ∧ WgLive 71 wg w₁ := fun hh rr => kf_of (st := ⟨.opn false, 0, wg, 4, (gs0 + 4), grp, may, Z, chs, q⟩) (by simp) hs (lo_lt hL _) (by intro p hp; simp only [List.mem_cons, List.not_mem_nil, or_false] at hp; subst hp; exact .inl hm.1) hh rr
    have hend := hend may q
    simp only [LM3, RM3, LM2, RM2, RM1, bodyM, Tryz.f17, Option.getD_some] at hend ⊢
    refine goes_join (n := 14) (m := 0) dm_nil (ROf.refl _ _) ?_
    u_c stepG_seq fm hF
    u_reg fm hF
    refine Goes.stop (fun w₁ h₁ => ?_)
    replace hF := fm hF h₁
    clear h₁
    refine Goes.stop (fun w₁ h₁ => ?_)
    replace hF := fm hF h₁
    clear h₁
    refine ⟨rfl, .recv c (.agg #[.int .i64 0, .int .i64 0]) _ rfl rfl hcc ⟨rfl, rfl, rfl, rfl, fun w₁ _ => ⟨#[], stepG_recv (t := 61) (e := 75) rfl rfl (by k_ne) rfl rfl Tryz.underlying61 Tryz.zeroValue75, by simp⟩, fun v rr hv => ?_, fun hv => ?_⟩⟩
    · exact nomatch (show ([] : List Value) = v :: rr from hq.symm.trans hv)
    rw [served_G, recvd_t]
    refine ⟨8 + 60, ?_⟩
    refine goes_join (n := 8) (m := 60) dm_nil (ROf.refl _ _) ?_
    walk_nrm
    u_op fm hF
    u_c stepG_region_end fm hF
    u_c stepG_seq fm hF
    u_cond false fm hF
    u_exit fm hF
    u_c stepG_inBlock fm hF
    refine Goes.stop (fun w₁ h₁ => ?_)
    replace hF := fm hF h₁
    clear h₁
    exact hend _ _ _ _ _ _ _ _ _ _ _ _ _ _ _ _ _ _ _ _ _ _ _ _ _ hm (by rw [hq]; rfl) hq0 hF
  | succ n ih =>
  intro k may q w v7 v8 v12 v13 v14 v15 v16 v17 v18 v19 v20 v21 v22 v25 v26 v28 v29 v30 v31 v32 v33 v34 v35 v36 hk hm hq hq0 hF
  have hs := hL.le
  have hle : w0.heap.size ≤ B2 ∧ B2 < B3 ∧ B3 < B4 ∧ B4 < B5 ∧ B5 < wg := by have h2 := hL.h2; have h3 := hL.h3; have h4 := hL.h4; have h5 := hL.h5; have hw := hL.hw; omega
  rw [show N + 1 + 2 * (n + 1) = N + 1 + 2 * n + 1 + 1 by omega]
  have fm : ∀ {w w₁ : World}, KF w0 (loB B2 B3 B4 B5 Lv Lp z cl) [(B9, .cells (VL (rowL Lv Lp acc j k)) 36)] grp w ∧ WgLive 71 wg w → ROf 71 ⟨.opn false, 0, wg, 4, (gs0 + 4), grp, may, Z, chs, q⟩ w w₁ → KF w0 (loB B2 B3 B4 B5 Lv Lp z cl) [(B9, .cells (VL (rowL Lv Lp acc j k)) 36)] grp w₁ ∧ WgLive 71 wg w₁ := fun hh rr => kf_of (st := ⟨.opn false, 0, wg, 4, (gs0 + 4), grp, may, Z, chs, q⟩) (by simp) hs (lo_lt hL _) (by intro p hp; simp only [List.mem_cons, List.not_mem_nil, or_false] at hp; subst hp; exact .inl hm.1) hh rr
  have ihk := ih (k + 1)
  clear ih hend
  simp only [LM3, RM3, LM2, RM2, RM1, bodyM, Tryz.f17, Option.getD_some] at ihk ⊢
  refine goes_join (n := 14) (m := 0) dm_nil (ROf.refl _ _) ?_
  u_c stepG_seq fm hF
  u_reg fm hF
  refine Goes.stop (fun w₁ h₁ => ?_)
  replace hF := fm hF h₁
  clear h₁
  refine Goes.stop (fun w₁ h₁ => ?_)
  replace hF := fm hF h₁
  clear h₁
  refine ⟨rfl, .recv c (.agg #[.int .i64 0, .int .i64 0]) _ rfl rfl hcc ⟨rfl, rfl, rfl, rfl, fun w₁ _ => ⟨#[], stepG_recv (t := 61) (e := 75) rfl rfl (by k_ne) rfl rfl Tryz.underlying61 Tryz.zeroValue75, by simp⟩, fun v rr hv => ?_, fun hv => ?_⟩⟩
  rotate_left
  · exact nomatch (show _ :: _ = ([] : List Value) from ((sents_succ Lv Lp j k n).symm.trans (hq.symm.trans hv)))
  rw [served_G, recvd_t]
  obtain ⟨rfl, rfl⟩ : sentv Lv Lp j k = v ∧ sents Lv Lp j (k + 1) n = rr := by
    have := hq.symm.trans hv
    rw [sents_succ] at this
    exact List.cons.inj this
  unfold sentv
  have hx4 : 4 * k + j < 24 := by omega
  obtain ⟨x, hx⟩ : ∃ x, Lv.getD (4 * k + j) 0 = x := ⟨_, rfl⟩
  obtain ⟨y, hy⟩ : ∃ y, Lp.getD (4 * k + j) 0 = y := ⟨_, rfl⟩
  have hyr : 0 ≤ y ∧ y < 24 := by
    rw [← hy, List.getD_eq_getElem?_getD, List.getElem?_eq_getElem (by omega)]
    exact hp _ (List.getElem_mem _)
  have hrow : (rowL Lv Lp acc j k).set y.toNat x = rowL Lv Lp acc j (k + 1) := by rw [rowL_succ, putL, hx, hy]
  rw [hx, hy]
  clear hx hy hq hv fm
  have fm : ∀ {w w₁ : World}, KF w0 (loB B2 B3 B4 B5 Lv Lp z cl) [(B9, .cells (VL (rowL Lv Lp acc j k)) 36)] grp w ∧ WgLive 71 wg w → ROf 71 ⟨.opn false, 0, wg, 4, (gs0 + 4), grp, may, Z, chs, (upd q c (sents Lv Lp j (k + 1) n))⟩ w w₁ → KF w0 (loB B2 B3 B4 B5 Lv Lp z cl) [(B9, .cells (VL (rowL Lv Lp acc j k)) 36)] grp w₁ ∧ WgLive 71 wg w₁ := fun hh rr => kf_of (st := ⟨.opn false, 0, wg, 4, (gs0 + 4), grp, may, Z, chs, (upd q c (sents Lv Lp j (k + 1) n))⟩) (by simp) hs (lo_lt hL _) (by intro p hp; simp only [List.mem_cons, List.not_mem_nil, or_false] at hp; subst hp; exact .inl hm.1) hh rr
  refine ⟨10 + 0, ?_⟩
  refine goes_join (n := 10) (m := 0) dm_nil (ROf.refl _ _) ?_
  walk_nrm
  u_op fm hF
  u_c stepG_region_end fm hF
  u_c stepG_seq fm hF
  u_cond true fm hF
  u_c stepG_skip fm hF
  u_c stepG_block fm hF
  u_c stepG_seq fm hF
  u_reg fm hF
  u_op fm hF
  refine Goes.stop (fun w₁ h₁ => ?_)
  replace hF := fm hF h₁
  clear h₁
  refine Goes.stop (fun w₁ h₁ => ?_)
  replace hF := fm hF h₁
  clear h₁
  clear fm
  have hsz := live_lt hF.2
  have h9 := hF.1.objs (B9, .cells (VL (rowL Lv Lp acc j k)) 36) (by simp)
  have h9lt : B9 < w₁.heap.size := lt_of_some' h9
  clear h9
  refine ⟨rfl, mstop_alloc rfl rfl (by k_ne) rfl Tryz.zeroValue75 ?_⟩
  have n12 : ¬ grp w₁.heap.size := fun h => Nat.lt_irrefl _ (hF.1.gl _ h)
  replace hF : KF w0 (loB B2 B3 B4 B5 Lv Lp z cl) [(w₁.heap.size, .cells #[.int .i64 0, .int .i64 0] 75), (B9, .cells (VL (rowL Lv Lp acc j k)) 36)] grp (w₁.alloc (.cells #[.int .i64 0, .int .i64 0] 75)) ∧ WgLive 71 wg (w₁.alloc (.cells #[.int .i64 0, .int .i64 0] 75)) := ⟨hF.1.alloc (by omega) _, live_alloc' hF.2⟩
  revert hF n12 h9lt hsz
  show _ → _ → _ → _ → Sc Tryz.prog _ _ _ _ _ (w₁.alloc (.cells #[.int .i64 0, .int .i64 0] 75))
  generalize w₁.alloc (.cells #[.int .i64 0, .int .i64 0] 75) = w₂
  generalize w₁.heap.size = B12
  intro hsz h9lt n12 hF
  have n9 : ¬ grp B9 := hm.2 _ hm.1
  have fm : ∀ {w w₁ : World}, KF w0 (loB B2 B3 B4 B5 Lv Lp z cl) [(B12, .cells #[.int .i64 0, .int .i64 0] 75), (B9, .cells (VL (rowL Lv Lp acc j k)) 36)] grp w ∧ WgLive 71 wg w → ROf 71 ⟨.opn false, 0, wg, 4, (gs0 + 4), grp, (fun b => may b ∨ b = B12), Z, chs, (upd q c (sents Lv Lp j (k + 1) n))⟩ w w₁ → KF w0 (loB B2 B3 B4 B5 Lv Lp z cl) [(B12, .cells #[.int .i64 0, .int .i64 0] 75), (B9, .cells (VL (rowL Lv Lp acc j k)) 36)] grp w₁ ∧ WgLive 71 wg w₁ := fun hh rr => kf_of (st := ⟨.opn false, 0, wg, 4, (gs0 + 4), grp, (fun b => may b ∨ b = B12), Z, chs, (upd q c (sents Lv Lp j (k + 1) n))⟩) (by simp) hs (lo_lt hL _) (by intro p hp; simp only [List.mem_cons, List.not_mem_nil, or_false] at hp; rcases hp with rfl | rfl; exact .inl (.inr rfl); exact .inl (.inl hm.1)) hh rr
  walk_nrm
  refine ⟨1 + (4 + (1 + (1 + (1 + (1 + (1 + (6 + 14))))))), ?_⟩
  refine Goes.step rfl (fun w₁ h₁ => ?_)
  replace hF := fm hF h₁
  clear h₁
  clear fm
  have h12 := hF.1.objs (B12, .cells #[.int .i64 0, .int .i64 0] 75) (by simp)
  refine goes_ex (stepG_storeR (vs := #[.int .i64 x, .int .i64 y]) rfl rfl (by k_ne) rfl rfl rfl h12 (by rfl) rfl (by simp [Value.oneCell']) Tryz.sizeOf75) fun es hes => ⟨dm_setRow hes (.inr rfl) n12 (lt_of_some' h12), ?_⟩
  clear es hes
  have ht := turn_row (vs := #[.int .i64 x, .int .i64 y]) h12
  replace hF : KF w0 (loB B2 B3 B4 B5 Lv Lp z cl) [(B12, .cells #[.int .i64 x, .int .i64 y] 75), (B9, .cells (VL (rowL Lv Lp acc j k)) 36)] grp (w₁.setRow B12 #[.int .i64 x, .int .i64 y]) ∧ WgLive 71 wg (w₁.setRow B12 #[.int .i64 x, .int .i64 y]) :=
    ⟨hF.1.turn ht.1 ht.2.1 ht.2.2 (by omega) (fun p hp => by
      simp only [List.mem_cons, List.not_mem_nil, or_false] at hp ⊢
      rcases hp with rfl | rfl
      · exact .inl rfl
      · exact .inr ⟨.inr rfl, by simp only; omega⟩) fun p hp => .inr ⟨hp, by have := lo_lt hL _ p hp; omega⟩, live_turn ht.2.1 (by omega) hF.2⟩
  clear h12 ht
  generalize w₁.setRow _ _ = w₂ at hF ⊢
  have fm : ∀ {w w₁ : World}, KF w0 (loB B2 B3 B4 B5 Lv Lp z cl) [(B12, .cells #[.int .i64 x, .int .i64 y] 75), (B9, .cells (VL (rowL Lv Lp acc j k)) 36)] grp w ∧ WgLive 71 wg w → ROf 71 ⟨.opn false, 0, wg, 4, (gs0 + 4), grp, (fun b => may b ∨ b = B12), Z, chs, (upd q c (sents Lv Lp j (k + 1) n))⟩ w w₁ → KF w0 (loB B2 B3 B4 B5 Lv Lp z cl) [(B12, .cells #[.int .i64 x, .int .i64 y] 75), (B9, .cells (VL (rowL Lv Lp acc j k)) 36)] grp w₁ ∧ WgLive 71 wg w₁ := fun hh rr => kf_of (st := ⟨.opn false, 0, wg, 4, (gs0 + 4), grp, (fun b => may b ∨ b = B12), Z, chs, (upd q c (sents Lv Lp j (k + 1) n))⟩) (by simp) hs (lo_lt hL _) (by intro p hp; simp only [List.mem_cons, List.not_mem_nil, or_false] at hp; rcases hp with rfl | rfl; exact .inl (.inr rfl); exact .inl (.inl hm.1)) hh rr
  refine goes_join (n := 4) (m := 25) dm_nil (ROf.refl _ _) ?_
  walk_nrm
  u_c stepG_region_end fm hF
  u_reg fm hF
  u_op fm hF
  refine Goes.stop (fun w₁ h₁ => ?_)
  replace hF := fm hF h₁
  clear h₁
  refine Goes.step rfl (fun w₁ h₁ => ?_)
  replace hF := fm hF h₁
  clear h₁
  have h12 := hF.1.objs (B12, .cells #[.int .i64 x, .int .i64 y] 75) (by simp)
  refine goes_ex (stepG_load1 (ty := 3) (ad := ⟨B12, 1, none⟩) (v := .int .i64 y) rfl rfl (by k_ne) rfl rfl (_root_.Go.Lib.cell_of_heap h12 1) Tryz.isAgg3) fun es hes => ⟨dm_read hes n12 (lt_of_some' h12), ?_⟩
  clear es hes h12
  refine goes_join (n := 1) (m := 23) dm_nil (ROf.refl _ _) ?_
  walk_nrm
  u_op fm hF
  refine Goes.stop (fun w₁ h₁ => ?_)
  replace hF := fm hF h₁
  clear h₁
  refine Goes.step rfl (fun w₁ h₁ => ?_)
  replace hF := fm hF h₁
  clear h₁
  have h12 := hF.1.objs (B12, .cells #[.int .i64 x, .int .i64 y] 75) (by simp)
  refine goes_ex (stepG_load1 (ty := 3) (ad := ⟨B12, 0, none⟩) (v := .int .i64 x) rfl rfl (by k_ne) rfl rfl (_root_.Go.Lib.cell_of_heap h12 0) Tryz.isAgg3) fun es hes => ⟨dm_read hes n12 (lt_of_some' h12), ?_⟩
  clear es hes h12
  walk_nrm
  refine Goes.step rfl (fun w₁ h₁ => ?_)
  replace hF := fm hF h₁
  clear h₁
  have hyn : ((y.toNat : Nat) : Int) = y := Int.toNat_of_nonneg hyr.1
  have hyl : y.toNat < 24 := by omega
  have ir := idx_v B9 y.toNat hyl w₁
  have ie := idx_v_ev B9 y.toNat hyl w₁
  rw [hyn] at ir ie
  rw [stepG_idx (g := B9) (n := y.toNat) (v := .int .i64 y) rfl rfl (by k_ne) rfl rfl rfl (by rw [ir, add0]) (ie _)]
  simp only [goes_go]
  refine ⟨dm_nil _, ?_⟩
  clear ir ie
  walk_nrm
  refine Goes.step rfl (fun w₁ h₁ => ?_)
  replace hF := fm hF h₁
  clear h₁
  clear fm
  have h9 := hF.1.objs (B9, .cells (VL (rowL Lv Lp acc j k)) 36) (by simp)
  have hrl : y.toNat < (rowL Lv Lp acc j k).length := by rw [rowL_len]; omega
  refine goes_ex (stepG_store1 (v := .int .i64 x) (ad := ⟨B9, y.toNat, none⟩) rfl rfl (by k_ne) rfl rfl rfl rfl (VL_at _ hrl h9) (_root_.Go.Lib.frozen_of_heap h9 _) Tryz.sizeOf3) fun es hes => ⟨dm_set hes (.inl hm.1) n9 (lt_of_some' h9), ?_⟩
  clear es hes
  have ht := turn_cell (j := y.toNat) (v := .int .i64 x) h9
  rw [VL_put, hrow] at ht
  replace hF : KF w0 (loB B2 B3 B4 B5 Lv Lp z cl) [(B9, .cells (VL (rowL Lv Lp acc j (k + 1))) 36)] grp (w₁.setCell ⟨B9, y.toNat, none⟩ (.int .i64 x)) ∧ WgLive 71 wg (w₁.setCell ⟨B9, y.toNat, none⟩ (.int .i64 x)) :=
    ⟨hF.1.turn ht.1 ht.2.1 ht.2.2 (by omega) (fun p hp => .inl (by simpa using hp)) fun p hp => .inr ⟨hp, by have := lo_lt hL _ p hp; omega⟩, live_turn ht.2.1 (by omega) hF.2⟩
  clear h9 ht
  generalize w₁.setCell _ _ = w₂ at hF ⊢
  have fm : ∀ {w w₁ : World}, KF w0 (loB B2 B3 B4 B5 Lv Lp z cl) [(B9, .cells (VL (rowL Lv Lp acc j (k + 1))) 36)] grp w ∧ WgLive 71 wg w → ROf 71 ⟨.opn false, 0, wg, 4, (gs0 + 4), grp, (fun b => may b ∨ b = B12), Z, chs, (upd q c (sents Lv Lp j (k + 1) n))⟩ w w₁ → KF w0 (loB B2 B3 B4 B5 Lv Lp z cl) [(B9, .cells (VL (rowL Lv Lp acc j (k + 1))) 36)] grp w₁ ∧ WgLive 71 wg w₁ := fun hh rr => kf_of (st := ⟨.opn false, 0, wg, 4, (gs0 + 4), grp, (fun b => may b ∨ b = B12), Z, chs, (upd q c (sents Lv Lp j (k + 1) n))⟩) (by simp) hs (lo_lt hL _) (by intro p hp; simp only [List.mem_cons, List.not_mem_nil, or_false] at hp; subst hp; exact .inl (.inl hm.1)) hh rr
  refine goes_join (n := 6) (m := 14) dm_nil (ROf.refl _ _) ?_
  walk_nrm
  u_c stepG_region_end fm hF
  u_c stepG_inBlock fm hF
  u_c stepG_inLoop fm hF
  refine Goes.stop (fun w₁ h₁ => ?_)
  replace hF := fm hF h₁
  clear h₁
  exact ihk (fun b => may b ∨ b = B12) _ _ _ _ _ _ _ _ _ _ _ _ _ _ _ _ _ _ _ _ _ _ _ _ _ _ (by omega) ⟨.inl hm.1, fun b hb => hb.elim (hm.2 b) fun e => by rw [e]; exact n12⟩ (by rw [upd_same]) (fun x hx => by rw [upd_ne _ _ hx]; exact hq0 x hx) hF

end

end Go.Proofs.YtiodikflmijhkaaGreatDoor
end

section
set_option linter.unusedSectionVars false
set_option linter.unusedVariables false
set_option linter.unusedSimpArgs false
namespace Go.Proofs.YtiodikflmijhkaaGreatDoor
open Go.Conc Go.ConcN Go.RowKit Go.Conc.Lib Go.ConcR.Gen Go.ConcN.Gen Farm
open Go.ConcR (KK wgBlock WgAt stA smA rd wr mk Payload Aside2 DC0)

def accL (Lv Lp : List Int) (j : Nat) : List Int := (List.range j).foldl (fun L i => rowL Lv Lp L i 6) (List.replicate 24 0)
/-- What 'moved' returns. -/
def mvL (Lv Lp : List Int) : List Int := accL Lv Lp 4
theorem accL_succ (Lv Lp : List Int) (j : Nat) : accL Lv Lp (j + 1) = rowL Lv Lp (accL Lv Lp j) j 6 := by simp [accL, List.range_succ, List.foldl_append]
theorem accL_len (Lv Lp : List Int) (j : Nat) : (accL Lv Lp j).length = 24 := by
  induction j with
  | zero => rfl
  | succ j ih => rw [accL_succ, rowL_len, ih]
theorem chA_get {cl : List Nat} (h4 : cl.length = 4) {j c : Nat} (hc : cl[j]? = some c) (W : World) : (Instr.index 62 (.agg (chA cl)) (.int .i64 (j : Int))).run Tryz.prog W = .ok (.chan (some c)) W := by
  obtain ⟨c0, c1, c2, c3, rfl⟩ : ∃ c0 c1 c2 c3, cl = [c0, c1, c2, c3] := by
    match cl, h4 with
    | [a, b, c, d], _ => exact ⟨a, b, c, d, rfl⟩
  match j, hc with
  | 0, hc => cases hc; exact (show _ = _ by kernel_rfl)
  | 1, hc => cases hc; exact (show _ = _ by kernel_rfl)
  | 2, hc => cases hc; exact (show _ = _ by kernel_rfl)
  | 3, hc => cases hc; exact (show _ = _ by kernel_rfl)
  | n + 4, hc => simp at hc
theorem chA_ev {cl : List Nat} (h4 : cl.length = 4) {j c : Nat} (hc : cl[j]? = some c) (W : World) : (Instr.index 62 (.agg (chA cl)) (.int .i64 (j : Int))).events Tryz.prog W #[] = #[] := by
  obtain ⟨c0, c1, c2, c3, rfl⟩ : ∃ c0 c1 c2 c3, cl = [c0, c1, c2, c3] := by
    match cl, h4 with
    | [a, b, c, d], _ => exact ⟨a, b, c, d, rfl⟩
  match j, hc with
  | 0, hc => exact (show _ = _ by kernel_rfl)
  | 1, hc => exact (show _ = _ by kernel_rfl)
  | 2, hc => exact (show _ = _ by kernel_rfl)
  | 3, hc => exact (show _ = _ by kernel_rfl)
  | n + 4, hc => simp at hc

section
variable {P : Program} {b : Frame} {a : Act} {k : List Item} {cs : List Frame} {w : World} {ops : Array Oper} {i : Nat} {rest : List Nat} {o : Oper}
theorem stepG_at {t : TypeId} {x y : Operand} {u v r : Value} (ho : ops[i]? = some o) (hw : Region.wanted o (yielded ops a.tmps) = true) (hk : b.kind ≠ .early) (hop : o.op = .index t x y) (hx : a.eval x = u) (hy : a.eval y = v)
    (hr : (Instr.index t u v).run P w = .ok r w) (hv : (Instr.index t u v).events P w #[] = #[]) {main : Bool} :
    stepG P main (G (b.at a (.inRegion ops (i :: rest) :: k)) cs) w = .go (G (b.at (a.put o.dst r) (.inRegion ops rest :: k)) cs) w #[] := by
  have he : execOp a.eval o = (do pure (.value (← Instr.index t u v)) : Sem Next) := by unfold execOp; simp only [hop, hx, hy]
  rw [stepG_value ho hw hk (v := r) (w' := w) (by rw [he, Sem.run_bind, hr]; rfl), Farm.listed_nil (by rw [he, Sem.events_bind, hr]; simp only [hv]; rfl)]
end

section
variable {Post : MSt → Goroutine → World → Prop} {w0 : World} {B2 B3 B4 B5 B9 wg : Nat} {Lv Lp : List Int} {z : Array Value} {Z grp chs may : Nat → Prop} {gs0 : Nat} {cl : List Nat} {cs : List Frame}

set_option maxRecDepth 100000 in
set_option maxHeartbeats 16000000 in
/-- ████ FROM ALL WORKERS. ████ -/
theorem rowsLoop (hL : Lay w0 B2 B3 B4 B5 wg) (hB9 : wg < B9) (hgw : grp wg) (hLp : Lp.length = 24) (hp : ∀ x ∈ Lp, 0 ≤ x ∧ x < 24) (h4 : cl.length = 4) (hcc : ∀ c ∈ cl, chs c) (hnd : cl.Nodup) {N : Nat}
    (hend : ∀ (may : Nat → Prop) q w v7 v8 v11 v12 v13 v14 v15 v16 v17 v18 v19 v20 v21 v22 v25 v26 v27 v28 v29 v30 v31 v32 v33 v34 v35 v36, (may B9 ∧ ∀ b, may b → ¬ grp b) → KF w0 (loB B2 B3 B4 B5 Lv Lp z cl) [(B9, .cells (VL (accL Lv Lp 4)) 36)] grp w ∧ WgLive 71 wg w →
      Goes Tryz.prog true (ROf 71 ⟨.opn false, 0, wg, 4, (gs0 + 4), grp, may, Z, chs, q⟩) (DM ⟨.opn false, 0, wg, 4, (gs0 + 4), grp, may, Z, chs, q⟩) (fun g w => g.status = .running ∧ MStop Tryz.prog 71 Post (Sc Tryz.prog 71 Post (N)) ⟨.opn false, 0, wg, 4, (gs0 + 4), grp, may, Z, chs, q⟩ g w) 40 (G (b14.at ⟨#[.agg (VL Lv), .agg (VL Lp), .pointer (some ⟨B2, 0, none⟩), .pointer (some ⟨B3, 0, none⟩), .pointer (some ⟨B4, 0, none⟩), .pointer (some ⟨B5, 0, none⟩), .pointer (some ⟨wg, 0, none⟩), v7, v8, .pointer (some ⟨B9, 0, none⟩), undef, v11, v12, v13, v14, v15, v16, v17, v18, v19, v20, v21, v22, .agg (chA cl), .int .i64 (4 : Int), v25, v26, v27, v28, v29, v30, v31, v32, v33, v34, v35, v36, undef, undef], []⟩ [.code LM2, .inLoop LM2, .inBlock 2, .code RM2]) cs) w) :
    ∀ n j (may : Nat → Prop) q w v7 v8 v11 v12 v13 v14 v15 v16 v17 v18 v19 v20 v21 v22 v25 v26 v27 v28 v29 v30 v31 v32 v33 v34 v35 v36, j + n = 4 → (may B9 ∧ ∀ b, may b → ¬ grp b) → (∀ i c, cl[i]? = some c → j ≤ i → q c = sents Lv Lp i 0 6) → KF w0 (loB B2 B3 B4 B5 Lv Lp z cl) [(B9, .cells (VL (accL Lv Lp j)) 36)] grp w ∧ WgLive 71 wg w →
      Goes Tryz.prog true (ROf 71 ⟨.opn false, 0, wg, 4, (gs0 + 4), grp, may, Z, chs, q⟩) (DM ⟨.opn false, 0, wg, 4, (gs0 + 4), grp, may, Z, chs, q⟩) (fun g w => g.status = .running ∧ MStop Tryz.prog 71 Post (Sc Tryz.prog 71 Post (N + 13 * n)) ⟨.opn false, 0, wg, 4, (gs0 + 4), grp, may, Z, chs, q⟩ g w) 40 (G (b14.at ⟨#[.agg (VL Lv), .agg (VL Lp), .pointer (some ⟨B2, 0, none⟩), .pointer (some ⟨B3, 0, none⟩), .pointer (some ⟨B4, 0, none⟩), .pointer (some ⟨B5, 0, none⟩), .pointer (some ⟨wg, 0, none⟩), v7, v8, .pointer (some ⟨B9, 0, none⟩), undef, v11, v12, v13, v14, v15, v16, v17, v18, v19, v20, v21, v22, .agg (chA cl), .int .i64 (j : Int), v25, v26, v27, v28, v29, v30, v31, v32, v33, v34, v35, v36, undef, undef], []⟩ [.code LM2, .inLoop LM2, .inBlock 2, .code RM2]) cs) w := by
  intro n
  induction n with
  | zero =>
    intro j may q w v7 v8 v11 v12 v13 v14 v15 v16 v17 v18 v19 v20 v21 v22 v25 v26 v27 v28 v29 v30 v31 v32 v33 v34 v35 v36 hj hm hq hF
    obtain rfl : j = 4 := by omega
    exact hend may q w v7 v8 v11 v12 v13 v14 v15 v16 v17 v18 v19 v20 v21 v22 v25 v26 v27 v28 v29 v30 v31 v32 v33 v34 v35 v36 hm hF
  | succ n ih =>
  intro j may q w v7 v8 v11 v12 v13 v14 v15 v16 v17 v18 v19 v20 v21 v22 v25 v26 v27 v28 v29 v30 v31 v32 v33 v34 v35 v36 hj hm hq hF
  have hs := hL.le
  have hj4 : j < 4 := by omega
  obtain ⟨c, hc⟩ : ∃ c, cl[j]? = some c := ⟨_, List.getElem?_eq_getElem (by omega)⟩
  have hlt : ((j : Int) < 4) = True := eq_true (by omega)
  rw [show N + 13 * (n + 1) = N + 13 * n + 1 + 2 * 6 by omega]
  have fm : ∀ {w w₁ : World}, KF w0 (loB B2 B3 B4 B5 Lv Lp z cl) [(B9, .cells (VL (accL Lv Lp j)) 36)] grp w ∧ WgLive 71 wg w → ROf 71 ⟨.opn false, 0, wg, 4, (gs0 + 4), grp, may, Z, chs, q⟩ w w₁ → KF w0 (loB B2 B3 B4 B5 Lv Lp z cl) [(B9, .cells (VL (accL Lv Lp j)) 36)] grp w₁ ∧ WgLive 71 wg w₁ := fun hh rr => kf_of (st := ⟨.opn false, 0, wg, 4, (gs0 + 4), grp, may, Z, chs, q⟩) (by simp) hs (lo_lt hL _) (by intro p hp; simp only [List.mem_cons, List.not_mem_nil, or_false] at hp; subst hp; exact .inl hm.1) hh rr
  have hend' : ∀ (may' : Nat → Prop) q' w v7 v8 v12 v13 v14 v15 v16 v17 v18 v19 v20 v21 v22 v25 v26 v28 v29 v30 v31 v32 v33 v34 v35 v36, (may' B9 ∧ ∀ b, may' b → ¬ grp b) → q' c = [] → (∀ x, x ≠ c → q' x = q x) → KF w0 (loB B2 B3 B4 B5 Lv Lp z cl) [(B9, .cells (VL (rowL Lv Lp (accL Lv Lp j) j 6)) 36)] grp w ∧ WgLive 71 wg w →
      Goes Tryz.prog true (ROf 71 ⟨.opn false, 0, wg, 4, (gs0 + 4), grp, may', Z, chs, q'⟩) (DM ⟨.opn false, 0, wg, 4, (gs0 + 4), grp, may', Z, chs, q'⟩) (fun g w => g.status = .running ∧ MStop Tryz.prog 71 Post (Sc Tryz.prog 71 Post (N + 13 * n)) ⟨.opn false, 0, wg, 4, (gs0 + 4), grp, may', Z, chs, q'⟩ g w) 60 (G (b14.at ⟨#[.agg (VL Lv), .agg (VL Lp), .pointer (some ⟨B2, 0, none⟩), .pointer (some ⟨B3, 0, none⟩), .pointer (some ⟨B4, 0, none⟩), .pointer (some ⟨B5, 0, none⟩), .pointer (some ⟨wg, 0, none⟩), v7, v8, .pointer (some ⟨B9, 0, none⟩), undef, .chan (some c), v12, v13, v14, v15, v16, v17, v18, v19, v20, v21, v22, .agg (chA cl), .int .i64 (j : Int), v25, v26, .chan (some c), v28, v29, v30, v31, v32, v33, v34, v35, v36, undef, undef], []⟩ [.code RM3, .inLoop LM2, .inBlock 2, .code RM2]) cs) w := by
    intro may' q' w v7 v8 v12 v13 v14 v15 v16 v17 v18 v19 v20 v21 v22 v25 v26 v28 v29 v30 v31 v32 v33 v34 v35 v36 hm' hq1 hq2 hF
    have hq0 := hq
    clear hq fm
    have hwr : IntKind.i64.wrap ((j : Int) + 1) = ((j + 1 : Nat) : Int) := by rw [wrap_i64_of _ (by omega) (by omega)]; omega
    rw [← accL_succ] at hF
    have fm : ∀ {w w₁ : World}, KF w0 (loB B2 B3 B4 B5 Lv Lp z cl) [(B9, .cells (VL (accL Lv Lp (j + 1))) 36)] grp w ∧ WgLive 71 wg w → ROf 71 ⟨.opn false, 0, wg, 4, (gs0 + 4), grp, may', Z, chs, q'⟩ w w₁ → KF w0 (loB B2 B3 B4 B5 Lv Lp z cl) [(B9, .cells (VL (accL Lv Lp (j + 1))) 36)] grp w₁ ∧ WgLive 71 wg w₁ := fun hh rr => kf_of (st := ⟨.opn false, 0, wg, 4, (gs0 + 4), grp, may', Z, chs, q'⟩) (by simp) hs (lo_lt hL _) (by intro p hp; simp only [List.mem_cons, List.not_mem_nil, or_false] at hp; subst hp; exact .inl hm'.1) hh rr
    have ihk := ih (j + 1) may' q'
    clear ih hend
    simp only [RM3, LM2, RM2, RM1, bodyM, Tryz.f17, Option.getD_some] at ihk ⊢
    refine goes_join (n := 20) (m := 40) dm_nil (ROf.refl _ _) ?_
    u_reg fm hF
    u_op fm hF
    u_op fm hF
    u_c stepG_region_end fm hF
    u_c stepG_inLoop fm hF
    refine Goes.stop (fun w₁ h₁ => ?_)
    replace hF := fm hF h₁
    clear h₁
    refine ihk _ _ _ _ _ _ _ _ _ _ _ _ _ _ _ _ _ _ _ _ _ _ _ _ _ _ _ (by omega) hm' (fun i c' hc' hi => ?_) hF
    have hne : c' ≠ c := fun e => by
      subst e
      have h1 : j < cl.length := by omega
      have h2 : i < cl.length := (List.getElem?_eq_some_iff.1 hc').1
      have h3 := (List.getElem?_eq_some_iff.1 hc).2
      have h4' := (List.getElem?_eq_some_iff.1 hc').2
      exact (List.pairwise_iff_getElem.1 hnd) j i h1 h2 (by omega) (h3.trans h4'.symm)
    rw [hq2 c' hne]
    exact hq0 i c' hc' (by omega)
  have hR := fun (w : World) (v7 v8 v12 v13 v14 v15 v16 v17 v18 v19 v20 v21 v22 v25 v26 v28 v29 v30 v31 v32 v33 v34 v35 v36 : Value) (hF : KF w0 (loB B2 B3 B4 B5 Lv Lp z cl) [(B9, .cells (VL (accL Lv Lp j)) 36)] grp w ∧ WgLive 71 wg w) => recvLoop (Post := Post) (w0 := w0) (z := z) (Z := Z) (gs0 := gs0) (cs := cs) (cl := cl) (acc := accL Lv Lp j) (Lv := Lv) (q0 := q) (N := N + 13 * n) hL hB9 hgw hLp hp (accL_len Lv Lp j) hj4 (hcc c (List.mem_of_getElem? hc)) hend' 6 0 may q w v7 v8 v12 v13 v14 v15 v16 v17 v18 v19 v20 v21 v22 v25 v26 v28 v29 v30 v31 v32 v33 v34 v35 v36 rfl hm (hq j c hc (Nat.le_refl _)) (fun _ _ => rfl) hF
  clear hend' ih hend
  simp only [LM3, RM3, LM2, RM2, RM1, bodyM, Tryz.f17, Option.getD_some] at hR ⊢
  refine goes_join (n := 10) (m := 30) dm_nil (ROf.refl _ _) ?_
  u_c stepG_seq fm hF
  u_reg fm hF
  u_op fm hF
  u_c stepG_region_end fm hF
  u_c stepG_seq fm hF
  u_cond true fm hF
  u_c stepG_skip fm hF
  u_c stepG_seq fm hF
  u_c stepG_block fm hF
  u_c stepG_seq fm hF
  refine Goes.stop (fun w₁ h₁ => ?_)
  replace hF := fm hF h₁
  clear h₁
  refine goes_join (n := 1) (m := 29) dm_nil (ROf.refl _ _) ?_
  u_reg fm hF
  refine Goes.stop (fun w₁ h₁ => ?_)
  replace hF := fm hF h₁
  clear h₁
  refine Goes.step rfl (fun w₁ h₁ => ?_)
  replace hF := fm hF h₁
  clear h₁
  rw [stepG_at (r := .chan (some c)) rfl rfl (by k_ne) rfl rfl rfl (chA_get h4 hc _) (chA_ev h4 hc _)]
  simp only [goes_go]
  refine ⟨dm_nil _, ?_⟩
  walk_nrm
  refine goes_join (n := 14) (m := 14) dm_nil (ROf.refl _ _) ?_
  u_op fm hF
  u_c stepG_region_end fm hF
  u_c stepG_seq fm hF
  u_reg fm hF
  u_op fm hF
  u_c stepG_region_end fm hF
  u_c stepG_block fm hF
  u_c stepG_loop fm hF
  refine Goes.stop (fun w₁ h₁ => ?_)
  replace hF := fm hF h₁
  clear h₁
  exact hR _ _ _ _ _ _ _ _ _ _ _ _ _ _ _ _ _ _ _ _ _ _ _ _ _ hF

end

end Go.Proofs.YtiodikflmijhkaaGreatDoor
end
