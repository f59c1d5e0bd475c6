/- Proved: the statement Rows.FnLatticeMoveCardSaid: for every input the Go function laws.FnLatticeMove returns true and leaves its argument as it was, whatever order its goroutines take; no condition of mine. -/
/- Joined texts: G44 G45. -/
import Derived.Test.YtiodikflmijhkaaGreatDoorJ48
import Derived.Test.YtiodikflmijhkaaGreatDoorJ28
section
set_option linter.unusedSectionVars false
set_option linter.unusedVariables false
set_option linter.unusedSimpArgs false
namespace Go.Proofs.YtiodikflmijhkaaGreatDoor
open Go Go.Conc Go.ConcN Go.RowKit Go.Conc.Lib Go.ConcR.Gen Go.ConcN.Gen Farm Vow
open Go.ConcR (KK wgBlock WgAt stA smA rd wr mk Payload Aside2 DC0)
attribute [local irreducible] cN syn lvMove lmL vecB permB keepsB latB plTurned lvShape

section
variable {st : MSt} {D : Nat → Prop} {W w : World} {A : Option Addr} {n1 c1 : Nat} {xs ys L T Z : List Int} {bb : Bool} {vv pv gv mv tv iv yv zv : Value}
set_option maxRecDepth 100000 in
set_option maxHeartbeats 16000000 in
theorem law_S5 {u0 u1 u2 u6 u7 u8 u9 u13 u14 u15 u16 u17 u18 u19 u20 u21 u22 u23 u24 u25 u26 u27 u28 u29 u30 u31 u32 u33 u34 u35 u36 u37 u38 u39 u40 u41 u42 u43 u44 u45 u46 u47 u48 u49 u50 u51 u52 u53 u54 u55 u56 u57 u58 u59 u60 u61 u62 u63 u64 u65 u66 u67 u68 u69 u70 u71 u72 u73 u74 u75 u76 u77 u78 u79 u80 u81 u82 u83 u84 u85 u86 u87 u88 u89 u90 u91 u92 u93 u94 u95 u96 u97 u98 u99 u100 u101 u102 u103 u104 u105 u106 u107 u108 u109 u110 : Value} (h : LQ st D W w) (lv : Lq D w vv xs) (lp : Lq D w pv ys) (lg : Lq D w gv L) (li : Lq D w iv xs) (hx : xs.length ≤ 24) (hy : ys.length ≤ 24) (hL : L.length ≤ 24) (hZ : Z.length ≤ 24) (hlat : keepsB ys = true → latB L = latB xs) (hS1 : lvShape L = (Z, true)) (hS2 : lvShape xs = (Z, true))  :
    Done Tryz.prog 71 (FinL W) st (G (b3.at ⟨#[u0, u1, u2, vv, pv, gv, u6, u7, u8, u9, .bool true, iv, .bool true, u13, u14, u15, u16, u17, u18, u19, u20, u21, u22, u23, u24, u25, u26, u27, u28, u29, u30, u31, u32, u33, u34, u35, u36, u37, u38, u39, u40, u41, u42, u43, u44, u45, u46, u47, u48, u49, u50, u51, u52, u53, u54, u55, u56, u57, u58, u59, u60, u61, u62, u63, u64, u65, u66, u67, u68, u69, u70, u71, u72, u73, u74, u75, u76, u77, u78, u79, u80, u81, u82, u83, u84, u85, u86, u87, u88, u89, u90, u91, u92, u93, u94, u95, u96, u97, u98, u99, u100, u101, u102, u103, u104, u105, u106, u107, u108, u109, u110], []⟩ [.code (RW 8)]) []) w := by
  have htag := h.hP.tag
  have hd := h.hP.d
  have hF : (LQ st D W w ∧ Lq D w vv xs ∧ Lq D w pv ys ∧ Lq D w gv L ∧ Lq D w iv xs) := ⟨h, lv, lp, lg, li⟩
  clear h lv lp lg li
  have hN := @law_S6
  simp only [RW, tls, tl, bodyW, Tryz.f3, Option.getD_some] at hN ⊢
  have fm : ∀ {w w₁ : World}, (LQ st D W w ∧ Lq D w vv xs ∧ Lq D w pv ys ∧ Lq D w gv L ∧ Lq D w iv xs) → ROf 71 st w w₁ → (LQ st D W w₁ ∧ Lq D w₁ vv xs ∧ Lq D w₁ pv ys ∧ Lq D w₁ gv L ∧ Lq D w₁ iv xs) := fun hh rr => at_rely (F := fun w => (LQ st D W w ∧ Lq D w vv xs ∧ Lq D w pv ys ∧ Lq D w gv L ∧ Lq D w iv xs)) (fun w d h => ⟨h.1.at d, h.2⟩) htag hh rr
  refine done_silent (n := 70) htag hd ?_
  u_c stepG_seq fm hF
  u_reg fm hF
  u_op fm hF
  refine Goes.stop (fun w₁ h₁ => ?_)
  replace hF := fm hF h₁
  clear h₁
  refine ⟨rfl, shape_step hS1 hF.1 hF.2.2.2.1.weak hL rfl rfl (by k_ne) rfl (by walk_nrm <;> rfl) fun w2 yv hB hb hl => ?_⟩
  have hF2 : (LQ st D W w2 ∧ Lq D w2 vv xs ∧ Lq D w2 pv ys ∧ Lq D w2 gv L ∧ Lq D w2 iv xs ∧ Lw D w2 yv Z) := ⟨hB, hF.2.1.below hb, hF.2.2.1.below hb, hF.2.2.2.1.below hb, hF.2.2.2.2.below hb, hl⟩
  clear fm hF hB hb hl
  have hF := hF2
  clear hF2
  walk_nrm
  have fm : ∀ {w w₁ : World}, (LQ st D W w ∧ Lq D w vv xs ∧ Lq D w pv ys ∧ Lq D w gv L ∧ Lq D w iv xs ∧ Lw D w yv Z) → ROf 71 st w w₁ → (LQ st D W w₁ ∧ Lq D w₁ vv xs ∧ Lq D w₁ pv ys ∧ Lq D w₁ gv L ∧ Lq D w₁ iv xs ∧ Lw D w₁ yv Z) := fun hh rr => at_rely (F := fun w => (LQ st D W w ∧ Lq D w vv xs ∧ Lq D w pv ys ∧ Lq D w gv L ∧ Lq D w iv xs ∧ Lw D w yv Z)) (fun w d h => ⟨h.1.at d, h.2⟩) htag hh rr
  refine done_silent (n := 70) htag hd ?_
  u_op fm hF
  u_op fm hF
  u_op fm hF
  u_op fm hF
  u_op fm hF
  u_c stepG_region_end fm hF
  u_c stepG_seq fm hF
  u_reg fm hF
  u_op fm hF
  refine Goes.stop (fun w₁ h₁ => ?_)
  replace hF := fm hF h₁
  clear h₁
  refine ⟨rfl, shape_step hS2 hF.1 hF.2.1.weak hx rfl rfl (by k_ne) rfl (by walk_nrm <;> rfl) fun w2 zv hB hb hl => ?_⟩
  have hF2 : (LQ st D W w2 ∧ Lq D w2 vv xs ∧ Lq D w2 pv ys ∧ Lq D w2 gv L ∧ Lq D w2 iv xs ∧ Lw D w2 yv Z ∧ Lw D w2 zv Z) := ⟨hB, hF.2.1.below hb, hF.2.2.1.below hb, hF.2.2.2.1.below hb, hF.2.2.2.2.1.below hb, hF.2.2.2.2.2.below hb, hl⟩
  clear fm hF hB hb hl
  have hF := hF2
  clear hF2
  walk_nrm
  have fm : ∀ {w w₁ : World}, (LQ st D W w ∧ Lq D w vv xs ∧ Lq D w pv ys ∧ Lq D w gv L ∧ Lq D w iv xs ∧ Lw D w yv Z ∧ Lw D w zv Z) → ROf 71 st w w₁ → (LQ st D W w₁ ∧ Lq D w₁ vv xs ∧ Lq D w₁ pv ys ∧ Lq D w₁ gv L ∧ Lq D w₁ iv xs ∧ Lw D w₁ yv Z ∧ Lw D w₁ zv Z) := fun hh rr => at_rely (F := fun w => (LQ st D W w ∧ Lq D w vv xs ∧ Lq D w pv ys ∧ Lq D w gv L ∧ Lq D w iv xs ∧ Lw D w yv Z ∧ Lw D w zv Z)) (fun w d h => ⟨h.1.at d, h.2⟩) htag hh rr
  refine done_silent (n := 70) htag hd ?_
  u_op fm hF
  u_op fm hF
  u_op fm hF
  u_op fm hF
  u_op fm hF
  u_c stepG_region_end fm hF
  refine Goes.stop (fun w₁ h₁ => ?_)
  replace hF := fm hF h₁
  clear h₁
  exact ⟨rfl, hN hF.1 hF.2.1 hF.2.2.1 hF.2.2.2.1 hF.2.2.2.2.1 hF.2.2.2.2.2.1 hF.2.2.2.2.2.2 hx hy hL hZ hlat⟩
set_option maxRecDepth 100000 in
set_option maxHeartbeats 16000000 in
theorem law_S4 {u0 u1 u2 u6 u7 u8 u9 u10 u11 u12 u13 u14 u15 u16 u17 u18 u19 u20 u21 u22 u23 u24 u25 u26 u27 u28 u29 u30 u31 u32 u33 u34 u35 u36 u37 u38 u39 u40 u41 u42 u43 u44 u45 u46 u47 u48 u49 u50 u51 u52 u53 u54 u55 u56 u57 u58 u59 u60 u61 u62 u63 u64 u65 u66 u67 u68 u69 u70 u71 u72 u73 u74 u75 u76 u77 u78 u79 u80 u81 u82 u83 u84 u85 u86 u87 u88 u89 u90 u91 u92 u93 u94 u95 u96 u97 u98 u99 u100 u101 u102 u103 u104 u105 u106 u107 u108 u109 u110 : Value} (h : LQ st D W w) (lv : Lq D w vv xs) (lp : Lq D w pv ys) (lg : Lq D w gv L) (hx : xs.length ≤ 24) (hy : ys.length ≤ 24) (hL : L.length ≤ 24) (hZ : Z.length ≤ 24) (hlat : keepsB ys = true → latB L = latB xs) (hS1 : lvShape L = (Z, true)) (hS2 : lvShape xs = (Z, true)) (hT : plTurned ys = (T, true)) (hTl : T.length ≤ 24) (hLM2 : lvMove L T = (xs, true)) (hgs : st.gs + 4 < 1000)  :
    Done Tryz.prog 71 (FinL W) st (G (b3.at ⟨#[u0, u1, u2, vv, pv, gv, u6, u7, u8, u9, u10, u11, u12, u13, u14, u15, u16, u17, u18, u19, u20, u21, u22, u23, u24, u25, u26, u27, u28, u29, u30, u31, u32, u33, u34, u35, u36, u37, u38, u39, u40, u41, u42, u43, u44, u45, u46, u47, u48, u49, u50, u51, u52, u53, u54, u55, u56, u57, u58, u59, u60, u61, u62, u63, u64, u65, u66, u67, u68, u69, u70, u71, u72, u73, u74, u75, u76, u77, u78, u79, u80, u81, u82, u83, u84, u85, u86, u87, u88, u89, u90, u91, u92, u93, u94, u95, u96, u97, u98, u99, u100, u101, u102, u103, u104, u105, u106, u107, u108, u109, u110], []⟩ [.code (RW 6)]) []) w := by
  have htag := h.hP.tag
  have hd := h.hP.d
  have hF : (LQ st D W w ∧ Lq D w vv xs ∧ Lq D w pv ys ∧ Lq D w gv L) := ⟨h, lv, lp, lg⟩
  clear h lv lp lg
  have hN := @law_S5
  simp only [RW, tls, tl, bodyW, Tryz.f3, Option.getD_some] at hN ⊢
  have fm : ∀ {w w₁ : World}, (LQ st D W w ∧ Lq D w vv xs ∧ Lq D w pv ys ∧ Lq D w gv L) → ROf 71 st w w₁ → (LQ st D W w₁ ∧ Lq D w₁ vv xs ∧ Lq D w₁ pv ys ∧ Lq D w₁ gv L) := fun hh rr => at_rely (F := fun w => (LQ st D W w ∧ Lq D w vv xs ∧ Lq D w pv ys ∧ Lq D w gv L)) (fun w d h => ⟨h.1.at d, h.2⟩) htag hh rr
  refine done_silent (n := 70) htag hd ?_
  u_c stepG_seq fm hF
  u_reg fm hF
  u_op fm hF
  refine Goes.stop (fun w₁ h₁ => ?_)
  replace hF := fm hF h₁
  clear h₁
  refine ⟨rfl, turned_step hT hF.1 hF.2.2.1 hy rfl rfl (by k_ne) rfl (by walk_nrm <;> rfl) fun w2 tv hB hb hl => ?_⟩
  have hF2 : (LQ st D W w2 ∧ Lq D w2 vv xs ∧ Lq D w2 pv ys ∧ Lq D w2 gv L ∧ Lq D w2 tv T) := ⟨hB, hF.2.1.below hb, hF.2.2.1.below hb, hF.2.2.2.below hb, hl⟩
  clear fm hF hB hb hl
  have hF := hF2
  clear hF2
  walk_nrm
  have fm : ∀ {w w₁ : World}, (LQ st D W w ∧ Lq D w vv xs ∧ Lq D w pv ys ∧ Lq D w gv L ∧ Lq D w tv T) → ROf 71 st w w₁ → (LQ st D W w₁ ∧ Lq D w₁ vv xs ∧ Lq D w₁ pv ys ∧ Lq D w₁ gv L ∧ Lq D w₁ tv T) := fun hh rr => at_rely (F := fun w => (LQ st D W w ∧ Lq D w vv xs ∧ Lq D w pv ys ∧ Lq D w gv L ∧ Lq D w tv T)) (fun w d h => ⟨h.1.at d, h.2⟩) htag hh rr
  refine done_silent (n := 70) htag hd ?_
  u_op fm hF
  u_op fm hF
  u_op fm hF
  u_op fm hF
  u_op fm hF
  u_c stepG_region_end fm hF
  u_c stepG_seq fm hF
  u_reg fm hF
  u_op fm hF
  u_op fm hF
  refine Goes.stop (fun w₁ h₁ => ?_)
  replace hF := fm hF h₁
  clear h₁
  refine ⟨rfl, implQ_step hLM2 hF.1 hF.2.2.2.1 hF.2.2.2.2 hL hTl hgs rfl rfl (by k_ne) rfl (by walk_nrm <;> rfl) fun st1 D1 w2 iv hB hb hk hgs1 hl => ?_⟩
  have htag1 := hB.hP.tag
  have hd1 := hB.hP.d
  have hF2 : (LQ st1 D1 W w2 ∧ Lq D1 w2 vv xs ∧ Lq D1 w2 pv ys ∧ Lq D1 w2 gv L ∧ Lq D1 w2 tv T ∧ Lq D1 w2 iv xs) := ⟨hB, hF.2.1.reD hb hk, hF.2.2.1.reD hb hk, hF.2.2.2.1.reD hb hk, hF.2.2.2.2.reD hb hk, hl⟩
  clear fm hF hB hb hl hk htag hd
  have hF := hF2
  clear hF2
  walk_nrm
  have fm : ∀ {w w₁ : World}, (LQ st1 D1 W w ∧ Lq D1 w vv xs ∧ Lq D1 w pv ys ∧ Lq D1 w gv L ∧ Lq D1 w tv T ∧ Lq D1 w iv xs) → ROf 71 st1 w w₁ → (LQ st1 D1 W w₁ ∧ Lq D1 w₁ vv xs ∧ Lq D1 w₁ pv ys ∧ Lq D1 w₁ gv L ∧ Lq D1 w₁ tv T ∧ Lq D1 w₁ iv xs) := fun hh rr => at_rely (F := fun w => (LQ st1 D1 W w ∧ Lq D1 w vv xs ∧ Lq D1 w pv ys ∧ Lq D1 w gv L ∧ Lq D1 w tv T ∧ Lq D1 w iv xs)) (fun w d h => ⟨h.1.at d, h.2⟩) htag1 hh rr
  refine done_silent (n := 70) htag1 hd1 ?_
  u_op fm hF
  u_op fm hF
  u_op fm hF
  u_op fm hF
  u_op fm hF
  u_c stepG_region_end fm hF
  refine Goes.stop (fun w₁ h₁ => ?_)
  replace hF := fm hF h₁
  clear h₁
  exact ⟨rfl, hN hF.1 hF.2.1 hF.2.2.1 hF.2.2.2.1 hF.2.2.2.2.2 hx hy hL hZ hlat hS1 hS2⟩
set_option maxRecDepth 100000 in
set_option maxHeartbeats 16000000 in
theorem law_S3t {u0 u1 u2 u9 u10 u11 u12 u13 u14 u15 u16 u17 u18 u19 u20 u21 u22 u23 u24 u25 u26 u27 u28 u29 u30 u31 u32 u33 u34 u35 u36 u37 u38 u39 u40 u41 u42 u43 u44 u45 u46 u47 u48 u49 u50 u51 u52 u53 u54 u55 u56 u57 u58 u59 u60 u61 u62 u63 u64 u65 u66 u67 u68 u69 u70 u71 u72 u73 u74 u75 u76 u77 u78 u79 u80 u81 u82 u83 u84 u85 u86 u87 u88 u89 u90 u91 u92 u93 u94 u95 u96 u97 u98 u99 u100 u101 u102 u103 u104 u105 u106 u107 u108 u109 u110 : Value} (h : LQ st D W w) (lv : Lq D w vv xs) (lp : Lq D w pv ys) (lg : Lq D w gv L) (lm : Lw D w mv L) (hx : xs.length ≤ 24) (hy : ys.length ≤ 24) (hL : L.length ≤ 24) (hZ : Z.length ≤ 24) (hlat : keepsB ys = true → latB L = latB xs) (hS1 : lvShape L = (Z, true)) (hS2 : lvShape xs = (Z, true)) (hT : plTurned ys = (T, true)) (hTl : T.length ≤ 24) (hLM2 : lvMove L T = (xs, true)) (hgs : st.gs + 4 < 1000)  :
    Done Tryz.prog 71 (FinL W) st (G (b3.at ⟨#[u0, u1, u2, vv, pv, gv, .bool true, mv, .bool true, u9, u10, u11, u12, u13, u14, u15, u16, u17, u18, u19, u20, u21, u22, u23, u24, u25, u26, u27, u28, u29, u30, u31, u32, u33, u34, u35, u36, u37, u38, u39, u40, u41, u42, u43, u44, u45, u46, u47, u48, u49, u50, u51, u52, u53, u54, u55, u56, u57, u58, u59, u60, u61, u62, u63, u64, u65, u66, u67, u68, u69, u70, u71, u72, u73, u74, u75, u76, u77, u78, u79, u80, u81, u82, u83, u84, u85, u86, u87, u88, u89, u90, u91, u92, u93, u94, u95, u96, u97, u98, u99, u100, u101, u102, u103, u104, u105, u106, u107, u108, u109, u110], []⟩ [.code (RW 5)]) []) w := by
  have htag := h.hP.tag
  have hd := h.hP.d
  have hF : (LQ st D W w ∧ Lq D w vv xs ∧ Lq D w pv ys ∧ Lq D w gv L ∧ Lw D w mv L) := ⟨h, lv, lp, lg, lm⟩
  clear h lv lp lg lm
  have hN := @law_S4
  simp only [RW, tls, tl, bodyW, Tryz.f3, Option.getD_some] at hN ⊢
  have hev : ∀ w : World, (binOp BinOp.neq 4 (.bool true) (.bool true)).events Tryz.prog w #[] = #[] := fun w => by kernel_rfl
  have fm : ∀ {w w₁ : World}, (LQ st D W w ∧ Lq D w vv xs ∧ Lq D w pv ys ∧ Lq D w gv L ∧ Lw D w mv L) → ROf 71 st w w₁ → (LQ st D W w₁ ∧ Lq D w₁ vv xs ∧ Lq D w₁ pv ys ∧ Lq D w₁ gv L ∧ Lw D w₁ mv L) := fun hh rr => at_rely (F := fun w => (LQ st D W w ∧ Lq D w vv xs ∧ Lq D w pv ys ∧ Lq D w gv L ∧ Lw D w mv L)) (fun w d h => ⟨h.1.at d, h.2⟩) htag hh rr
  refine done_silent (n := 70) htag hd ?_
  u_c stepG_seq fm hF
  u_c stepG_seq fm hF
  u_reg fm hF
  u_op fm hF
  u_op fm hF
  u_op fm hF
  u_op fm hF
  u_op fm hF
  u_op fm hF
  refine Goes.stop (fun w₁ h₁ => ?_)
  replace hF := fm hF h₁
  clear h₁
  refine ⟨rfl, same_step hF.1 hF.2.2.2.1.weak hF.2.2.2.2 hL rfl rfl (by k_ne) rfl (by walk_nrm <;> rfl) fun w2 hB hb => ?_⟩
  have hF2 : (LQ st D W w2 ∧ Lq D w2 vv xs ∧ Lq D w2 pv ys ∧ Lq D w2 gv L ∧ Lw D w2 mv L) := ⟨hB, hF.2.1.below hb, hF.2.2.1.below hb, hF.2.2.2.1.below hb, hF.2.2.2.2.below hb⟩
  clear fm hF hB hb
  have hF := hF2
  clear hF2
  walk_nrm
  have fm : ∀ {w w₁ : World}, (LQ st D W w ∧ Lq D w vv xs ∧ Lq D w pv ys ∧ Lq D w gv L ∧ Lw D w mv L) → ROf 71 st w w₁ → (LQ st D W w₁ ∧ Lq D w₁ vv xs ∧ Lq D w₁ pv ys ∧ Lq D w₁ gv L ∧ Lw D w₁ mv L) := fun hh rr => at_rely (F := fun w => (LQ st D W w ∧ Lq D w vv xs ∧ Lq D w pv ys ∧ Lq D w gv L ∧ Lw D w mv L)) (fun w d h => ⟨h.1.at d, h.2⟩) htag hh rr
  refine done_silent (n := 70) htag hd ?_
  u_op fm hF
  u_op fm hF
  u_op fm hF
  u_op fm hF
  u_op fm hF
  u_op fm hF
  u_c stepG_region_end fm hF
  u_cond false fm hF
  u_c stepG_skip fm hF
  refine Goes.stop (fun w₁ h₁ => ?_)
  replace hF := fm hF h₁
  clear h₁
  exact ⟨rfl, hN hF.1 hF.2.1 hF.2.2.1 hF.2.2.2.1 hx hy hL hZ hlat hS1 hS2 hT hTl hLM2 hgs⟩
set_option maxRecDepth 100000 in
set_option maxHeartbeats 16000000 in
theorem law_S3f {u0 u1 u2 u9 u10 u11 u12 u13 u14 u15 u16 u17 u18 u19 u20 u21 u22 u23 u24 u25 u26 u27 u28 u29 u30 u31 u32 u33 u34 u35 u36 u37 u38 u39 u40 u41 u42 u43 u44 u45 u46 u47 u48 u49 u50 u51 u52 u53 u54 u55 u56 u57 u58 u59 u60 u61 u62 u63 u64 u65 u66 u67 u68 u69 u70 u71 u72 u73 u74 u75 u76 u77 u78 u79 u80 u81 u82 u83 u84 u85 u86 u87 u88 u89 u90 u91 u92 u93 u94 u95 u96 u97 u98 u99 u100 u101 u102 u103 u104 u105 u106 u107 u108 u109 u110 : Value} (h : LQ st D W w) (lv : Lq D w vv xs) (lp : Lq D w pv ys) (lg : Lq D w gv L) (lm : Lw D w mv L) (hx : xs.length ≤ 24) (hy : ys.length ≤ 24) (hL : L.length ≤ 24)  :
    Done Tryz.prog 71 (FinL W) st (G (b3.at ⟨#[u0, u1, u2, vv, pv, gv, .bool false, mv, .bool false, u9, u10, u11, u12, u13, u14, u15, u16, u17, u18, u19, u20, u21, u22, u23, u24, u25, u26, u27, u28, u29, u30, u31, u32, u33, u34, u35, u36, u37, u38, u39, u40, u41, u42, u43, u44, u45, u46, u47, u48, u49, u50, u51, u52, u53, u54, u55, u56, u57, u58, u59, u60, u61, u62, u63, u64, u65, u66, u67, u68, u69, u70, u71, u72, u73, u74, u75, u76, u77, u78, u79, u80, u81, u82, u83, u84, u85, u86, u87, u88, u89, u90, u91, u92, u93, u94, u95, u96, u97, u98, u99, u100, u101, u102, u103, u104, u105, u106, u107, u108, u109, u110], []⟩ [.code (RW 5)]) []) w := by
  have htag := h.hP.tag
  have hd := h.hP.d
  have hF : (LQ st D W w ∧ Lq D w vv xs ∧ Lq D w pv ys ∧ Lq D w gv L ∧ Lw D w mv L) := ⟨h, lv, lp, lg, lm⟩
  clear h lv lp lg lm
  simp only [RW, tls, tl, bodyW, Tryz.f3, Option.getD_some]
  have hev : ∀ w : World, (binOp BinOp.neq 4 (.bool false) (.bool false)).events Tryz.prog w #[] = #[] := fun w => by kernel_rfl
  have hev2 : ∀ w : World, (binOp BinOp.eql 4 (.bool false) (.bool false)).events Tryz.prog w #[] = #[] := fun w => by kernel_rfl
  have fm : ∀ {w w₁ : World}, (LQ st D W w ∧ Lq D w vv xs ∧ Lq D w pv ys ∧ Lq D w gv L ∧ Lw D w mv L) → ROf 71 st w w₁ → (LQ st D W w₁ ∧ Lq D w₁ vv xs ∧ Lq D w₁ pv ys ∧ Lq D w₁ gv L ∧ Lw D w₁ mv L) := fun hh rr => at_rely (F := fun w => (LQ st D W w ∧ Lq D w vv xs ∧ Lq D w pv ys ∧ Lq D w gv L ∧ Lw D w mv L)) (fun w d h => ⟨h.1.at d, h.2⟩) htag hh rr
  refine done_silent (n := 70) htag hd ?_
  u_c stepG_seq fm hF
  u_c stepG_seq fm hF
  u_reg fm hF
  u_op fm hF
  u_op fm hF
  u_op fm hF
  u_op fm hF
  u_op fm hF
  u_op fm hF
  refine Goes.stop (fun w₁ h₁ => ?_)
  replace hF := fm hF h₁
  clear h₁
  refine ⟨rfl, same_step hF.1 hF.2.2.2.1.weak hF.2.2.2.2 hL rfl rfl (by k_ne) rfl (by walk_nrm <;> rfl) fun w2 hB hb => ?_⟩
  have hF2 : (LQ st D W w2 ∧ Lq D w2 vv xs ∧ Lq D w2 pv ys ∧ Lq D w2 gv L ∧ Lw D w2 mv L) := ⟨hB, hF.2.1.below hb, hF.2.2.1.below hb, hF.2.2.2.1.below hb, hF.2.2.2.2.below hb⟩
  clear fm hF hB hb
  have hF := hF2
  clear hF2
  walk_nrm
  have fm : ∀ {w w₁ : World}, (LQ st D W w ∧ Lq D w vv xs ∧ Lq D w pv ys ∧ Lq D w gv L ∧ Lw D w mv L) → ROf 71 st w w₁ → (LQ st D W w₁ ∧ Lq D w₁ vv xs ∧ Lq D w₁ pv ys ∧ Lq D w₁ gv L ∧ Lw D w₁ mv L) := fun hh rr => at_rely (F := fun w => (LQ st D W w ∧ Lq D w vv xs ∧ Lq D w pv ys ∧ Lq D w gv L ∧ Lw D w mv L)) (fun w d h => ⟨h.1.at d, h.2⟩) htag hh rr
  refine done_silent (n := 70) htag hd ?_
  u_op fm hF
  u_op fm hF
  u_op fm hF
  u_op fm hF
  u_op fm hF
  u_op fm hF
  u_c stepG_region_end fm hF
  u_cond true fm hF
  u_c stepG_seq fm hF
  u_reg fm hF
  u_op fm hF
  u_op fm hF
  u_op fm hF
  u_op fm hF
  u_op fm hF
  u_op fm hF
  refine Goes.stop (fun w₁ h₁ => ?_)
  replace hF := fm hF h₁
  clear h₁
  refine ⟨rfl, same_step hF.1 hF.2.2.2.1.weak hF.2.2.2.2 hL rfl rfl (by k_ne) rfl (by walk_nrm <;> rfl) fun w2 hB hb => ?_⟩
  have hF2 : (LQ st D W w2 ∧ Lq D w2 vv xs ∧ Lq D w2 pv ys ∧ Lq D w2 gv L ∧ Lw D w2 mv L) := ⟨hB, hF.2.1.below hb, hF.2.2.1.below hb, hF.2.2.2.1.below hb, hF.2.2.2.2.below hb⟩
  clear fm hF hB hb
  have hF := hF2
  clear hF2
  walk_nrm
  have fm : ∀ {w w₁ : World}, (LQ st D W w ∧ Lq D w vv xs ∧ Lq D w pv ys ∧ Lq D w gv L ∧ Lw D w mv L) → ROf 71 st w w₁ → (LQ st D W w₁ ∧ Lq D w₁ vv xs ∧ Lq D w₁ pv ys ∧ Lq D w₁ gv L ∧ Lw D w₁ mv L) := fun hh rr => at_rely (F := fun w => (LQ st D W w ∧ Lq D w vv xs ∧ Lq D w pv ys ∧ Lq D w gv L ∧ Lw D w mv L)) (fun w d h => ⟨h.1.at d, h.2⟩) htag hh rr
  refine done_silent (n := 70) htag hd ?_
  u_op fm hF
  u_op fm hF
  u_c stepG_region_end fm hF
  u_c stepG_ret' fm hF
  refine Goes.stop (fun w₁ h₁ => ?_)
  replace hF := fm hF h₁
  clear h₁
  exact ⟨rfl, done_ret htag rfl rfl rfl Tryz.func3 (by kernel_rfl) (resultsC_tmp (t := 2) rfl _) fun d => ⟨rfl, below_at hF.1.hb⟩⟩
set_option maxRecDepth 100000 in
set_option maxHeartbeats 16000000 in
theorem law_S2 {u0 u1 u2 u5 u6 u7 u8 u9 u10 u11 u12 u13 u14 u15 u16 u17 u18 u19 u20 u21 u22 u23 u24 u25 u26 u27 u28 u29 u30 u31 u32 u33 u34 u35 u36 u37 u38 u39 u40 u41 u42 u43 u44 u45 u46 u47 u48 u49 u50 u51 u52 u53 u54 u55 u56 u57 u58 u59 u60 u61 u62 u63 u64 u65 u66 u67 u68 u69 u70 u71 u72 u73 u74 u75 u76 u77 u78 u79 u80 u81 u82 u83 u84 u85 u86 u87 u88 u89 u90 u91 u92 u93 u94 u95 u96 u97 u98 u99 u100 u101 u102 u103 u104 u105 u106 u107 u108 u109 u110 : Value} (h : LQ st D W w) (lv : Lq D w vv xs) (lp : Lq D w pv ys) (hx : xs.length ≤ 24) (hy : ys.length ≤ 24) (hL : L.length ≤ 24) (hLM : lvMove xs ys = (L, bb)) (hgs8 : st.gs + 8 < 1000) (hyes : bb = true → ∃ T Z, plTurned ys = (T, true) ∧ T.length ≤ 24 ∧ lvMove L T = (xs, true) ∧ lvShape L = (Z, true) ∧ lvShape xs = (Z, true) ∧ Z.length ≤ 24 ∧ (keepsB ys = true → latB L = latB xs)) :
    Done Tryz.prog 71 (FinL W) st (G (b3.at ⟨#[u0, u1, u2, vv, pv, u5, u6, u7, u8, u9, u10, u11, u12, u13, u14, u15, u16, u17, u18, u19, u20, u21, u22, u23, u24, u25, u26, u27, u28, u29, u30, u31, u32, u33, u34, u35, u36, u37, u38, u39, u40, u41, u42, u43, u44, u45, u46, u47, u48, u49, u50, u51, u52, u53, u54, u55, u56, u57, u58, u59, u60, u61, u62, u63, u64, u65, u66, u67, u68, u69, u70, u71, u72, u73, u74, u75, u76, u77, u78, u79, u80, u81, u82, u83, u84, u85, u86, u87, u88, u89, u90, u91, u92, u93, u94, u95, u96, u97, u98, u99, u100, u101, u102, u103, u104, u105, u106, u107, u108, u109, u110], []⟩ [.code (RW 3)]) []) w := by
  have htag := h.hP.tag
  have hd := h.hP.d
  have hF : (LQ st D W w ∧ Lq D w vv xs ∧ Lq D w pv ys) := ⟨h, lv, lp⟩
  clear h lv lp
  have hN1 := @law_S3f
  have hN2 := @law_S3t
  have hgs : st.gs + 4 < 1000 := by omega
  simp only [RW, tls, tl, bodyW, Tryz.f3, Option.getD_some] at hN1 hN2 ⊢
  have fm : ∀ {w w₁ : World}, (LQ st D W w ∧ Lq D w vv xs ∧ Lq D w pv ys) → ROf 71 st w w₁ → (LQ st D W w₁ ∧ Lq D w₁ vv xs ∧ Lq D w₁ pv ys) := fun hh rr => at_rely (F := fun w => (LQ st D W w ∧ Lq D w vv xs ∧ Lq D w pv ys)) (fun w d h => ⟨h.1.at d, h.2⟩) htag hh rr
  refine done_silent (n := 70) htag hd ?_
  u_c stepG_seq fm hF
  u_reg fm hF
  u_op fm hF
  u_op fm hF
  refine Goes.stop (fun w₁ h₁ => ?_)
  replace hF := fm hF h₁
  clear h₁
  refine ⟨rfl, implQ_step hLM hF.1 hF.2.1 hF.2.2 hx hy hgs rfl rfl (by k_ne) rfl (by walk_nrm <;> rfl) fun st1 D1 w2 gv hB hb hk hgs1 hl => ?_⟩
  have htag1 := hB.hP.tag
  have hd1 := hB.hP.d
  have hF2 : (LQ st1 D1 W w2 ∧ Lq D1 w2 vv xs ∧ Lq D1 w2 pv ys ∧ Lq D1 w2 gv L) := ⟨hB, hF.2.1.reD hb hk, hF.2.2.reD hb hk, hl⟩
  clear fm hF hB hb hl hk htag hd
  have hF := hF2
  clear hF2
  walk_nrm
  have fm : ∀ {w w₁ : World}, (LQ st1 D1 W w ∧ Lq D1 w vv xs ∧ Lq D1 w pv ys ∧ Lq D1 w gv L) → ROf 71 st1 w w₁ → (LQ st1 D1 W w₁ ∧ Lq D1 w₁ vv xs ∧ Lq D1 w₁ pv ys ∧ Lq D1 w₁ gv L) := fun hh rr => at_rely (F := fun w => (LQ st1 D1 W w ∧ Lq D1 w vv xs ∧ Lq D1 w pv ys ∧ Lq D1 w gv L)) (fun w d h => ⟨h.1.at d, h.2⟩) htag1 hh rr
  refine done_silent (n := 70) htag1 hd1 ?_
  u_op fm hF
  u_op fm hF
  u_op fm hF
  u_op fm hF
  u_op fm hF
  u_c stepG_region_end fm hF
  u_c stepG_seq fm hF
  u_reg fm hF
  u_op fm hF
  u_op fm hF
  refine Goes.stop (fun w₁ h₁ => ?_)
  replace hF := fm hF h₁
  clear h₁
  refine ⟨rfl, modelQ_step hLM hF.1 hF.2.1 hF.2.2.1 hx hy rfl rfl (by k_ne) rfl (by walk_nrm <;> rfl) fun w2 mv hB hb hl => ?_⟩
  have hF2 : (LQ st1 D1 W w2 ∧ Lq D1 w2 vv xs ∧ Lq D1 w2 pv ys ∧ Lq D1 w2 gv L ∧ Lw D1 w2 mv L) := ⟨hB, hF.2.1.below hb, hF.2.2.1.below hb, hF.2.2.2.below hb, hl⟩
  clear fm hF hB hb hl
  have hF := hF2
  clear hF2
  walk_nrm
  have fm : ∀ {w w₁ : World}, (LQ st1 D1 W w ∧ Lq D1 w vv xs ∧ Lq D1 w pv ys ∧ Lq D1 w gv L ∧ Lw D1 w mv L) → ROf 71 st1 w w₁ → (LQ st1 D1 W w₁ ∧ Lq D1 w₁ vv xs ∧ Lq D1 w₁ pv ys ∧ Lq D1 w₁ gv L ∧ Lw D1 w₁ mv L) := fun hh rr => at_rely (F := fun w => (LQ st1 D1 W w ∧ Lq D1 w vv xs ∧ Lq D1 w pv ys ∧ Lq D1 w gv L ∧ Lw D1 w mv L)) (fun w d h => ⟨h.1.at d, h.2⟩) htag1 hh rr
  refine done_silent (n := 70) htag1 hd1 ?_
  u_op fm hF
  u_op fm hF
  u_op fm hF
  u_op fm hF
  u_op fm hF
  u_c stepG_region_end fm hF
  refine Goes.stop (fun w₁ h₁ => ?_)
  replace hF := fm hF h₁
  clear h₁
  rcases bb with _ | _
  · exact ⟨rfl, hN1 hF.1 hF.2.1 hF.2.2.1 hF.2.2.2.1 hF.2.2.2.2 hx hy hL⟩
  · obtain ⟨T, Z, hT, hTl, hLM2, hS1, hS2, hZ, hlat⟩ := hyes rfl
    exact ⟨rfl, hN2 hF.1 hF.2.1 hF.2.2.1 hF.2.2.2.1 hF.2.2.2.2 hx hy hL hZ hlat hS1 hS2 hT hTl hLM2 (by omega)⟩
end

end Go.Proofs.YtiodikflmijhkaaGreatDoor
end

section
set_option linter.unusedSectionVars false
set_option linter.unusedVariables false
set_option linter.unusedSimpArgs false
namespace Go.Proofs.YtiodikflmijhkaaGreatDoor
open Go Go.Conc Go.ConcN Go.RowKit Go.Conc.Lib Go.ConcR.Gen Go.ConcN.Gen Farm Vow
open Go.ConcR (KK wgBlock WgAt stA smA rd wr mk Payload Aside2 DC0)
attribute [local irreducible] cN syn lvMove lmL vecB permB keepsB latB plTurned lvShape

theorem bodyW_eq : Tryz.f3.body = some bodyW := by
  unfold bodyW Tryz.f3
  rfl
theorem law_enter (A : Option Addr) (n1 c1 : Nat) : Frame.enter Tryz.prog 3 #[.slice A n1 c1] .normal = b3.at ⟨#[.slice A n1 c1, undef, undef, undef, undef, undef, undef, undef, undef, undef, undef, undef, undef, undef, undef, undef, undef, undef, undef, undef, undef, undef, undef, undef, undef, undef, undef, undef, undef, undef, undef, undef, undef, undef, undef, undef, undef, undef, undef, undef, undef, undef, undef, undef, undef, undef, undef, undef, undef, undef, undef, undef, undef, undef, undef, undef, undef, undef, undef, undef, undef, undef, undef, undef, undef, undef, undef, undef, undef, undef, undef, undef, undef, undef, undef, undef, undef, undef, undef, undef, undef, undef, undef, undef, undef, undef, undef, undef, undef, undef, undef, undef, undef, undef, undef, undef, undef, undef, undef, undef, undef, undef, undef, undef, undef, undef, undef, undef, undef, undef, undef], []⟩ [.code bodyW] := by
  rw [enter_at _ Tryz.func3 bodyW_eq]
  simp only [Tryz.ntmps3]
  walk_nrm
theorem lvMove_len (xs ys : List Int) : (lvMove xs ys).1.length ≤ 24 := by
  unfold lvMove
  split
  · exact Nat.le_of_eq (lmL_len xs ys 24)
  · simp
section
variable {W : World} {A : Option Addr} {c1 : Nat} {bs : List Int}
set_option maxRecDepth 100000 in
set_option maxHeartbeats 16000000 in
theorem law_S1 (tb : ∀ g, gL g = true → IntRow W g) (t3 : Tab3 W) (hr : Rds W W.heap.size .u8 A bs) (hc : bs.length ≤ c1) (hm : c1 ≤ maxLen) (hv : ∀ i, 0 ≤ bs.getD i 0 ∧ bs.getD i 0 ≤ 255) :
    Done Tryz.prog 71 (FinL W) stP (G (b3.at ⟨#[.slice A bs.length c1, undef, undef, undef, undef, undef, undef, undef, undef, undef, undef, undef, undef, undef, undef, undef, undef, undef, undef, undef, undef, undef, undef, undef, undef, undef, undef, undef, undef, undef, undef, undef, undef, undef, undef, undef, undef, undef, undef, undef, undef, undef, undef, undef, undef, undef, undef, undef, undef, undef, undef, undef, undef, undef, undef, undef, undef, undef, undef, undef, undef, undef, undef, undef, undef, undef, undef, undef, undef, undef, undef, undef, undef, undef, undef, undef, undef, undef, undef, undef, undef, undef, undef, undef, undef, undef, undef, undef, undef, undef, undef, undef, undef, undef, undef, undef, undef, undef, undef, undef, undef, undef, undef, undef, undef, undef, undef, undef, undef, undef, undef], []⟩ [.code bodyW]) []) W := by
  have hN := @law_S2
  have htag : stP.tag = .law := rfl
  have hd : stP.d = 0 := rfl
  have hF : (Below W.heap.size W W ∧ W.heap.size ≤ W.heap.size) := ⟨Below.refl _ _, Nat.le_refl _⟩
  have fm : ∀ {w w₁ : World}, (Below W.heap.size W w ∧ W.heap.size ≤ w.heap.size) → ROf 71 stP w w₁ → (Below W.heap.size W w₁ ∧ W.heap.size ≤ w₁.heap.size) := fun hh rr => at_rely (F := fun w => (Below W.heap.size W w ∧ W.heap.size ≤ w.heap.size)) (fun w d h => ⟨below_at h.1, h.2⟩) htag hh rr
  have hm' := hm
  unfold maxLen at hm'
  simp only [RW, tls, tl, bodyW, Tryz.f3, Option.getD_some] at hN ⊢
  by_cases h1 : 1048576 < bs.length
  · have h1' : ((1048576 : Int) < (bs.length : Int)) = True := eq_true (by omega)
    refine done_silent (n := 40) htag hd ?_
    u_c stepG_seq fm hF
    u_reg fm hF
    u_op fm hF
    u_c stepG_region_end fm hF
    u_c stepG_seq fm hF
    u_c stepG_seq fm hF
    u_reg fm hF
    u_op fm hF
    u_op fm hF
    u_op fm hF
    u_c stepG_region_end fm hF
    u_cond true fm hF
    u_c stepG_seq fm hF
    u_reg fm hF
    u_op fm hF
    u_c stepG_region_end fm hF
    u_c stepG_ret' fm hF
    refine Goes.stop (fun w₁ h₁ => ?_)
    replace hF := fm hF h₁
    clear h₁
    exact ⟨rfl, done_ret htag rfl rfl rfl Tryz.func3 (by kernel_rfl) (resultsC_tmp (t := 2) rfl _) fun d => ⟨rfl, below_at hF.1⟩⟩
  · have h1' : ((1048576 : Int) < (bs.length : Int)) = False := eq_false (by omega)
    refine done_silent (n := 40) htag hd ?_
    u_c stepG_seq fm hF
    u_reg fm hF
    u_op fm hF
    u_c stepG_region_end fm hF
    u_c stepG_seq fm hF
    u_c stepG_seq fm hF
    u_reg fm hF
    u_op fm hF
    u_op fm hF
    u_op fm hF
    u_c stepG_region_end fm hF
    u_cond false fm hF
    u_c stepG_skip fm hF
    u_c stepG_seq fm hF
    u_reg fm hF
    u_op fm hF
    refine Goes.stop (fun w₁ h₁ => ?_)
    replace hF := fm hF h₁
    clear h₁
    refine ⟨rfl, draw_step hF.1 (fun g hg => (tb g hg).below hF.1 (tb g hg).lt) (t3.below hF.1 t3.lt) ((hr.below hF.1).more hF.2) hc hm hv rfl rfl (by k_ne) rfl (by walk_nrm <;> rfl) fun D w2 v1 v2 xs ys hQ l1 l2 hx hy => ?_⟩
    clear fm hF
    walk_nrm
    have hF : (LQ stP D W w2 ∧ Lq D w2 v1 xs ∧ Lq D w2 v2 ys) := ⟨hQ, l1, l2⟩
    clear hQ l1 l2
    have fm : ∀ {w w₁ : World}, (LQ stP D W w ∧ Lq D w v1 xs ∧ Lq D w v2 ys) → ROf 71 stP w w₁ → (LQ stP D W w₁ ∧ Lq D w₁ v1 xs ∧ Lq D w₁ v2 ys) := fun hh rr => at_rely (F := fun w => (LQ stP D W w ∧ Lq D w v1 xs ∧ Lq D w v2 ys)) (fun w d h => ⟨h.1.at d, h.2⟩) htag hh rr
    refine done_silent (n := 40) htag hd ?_
    u_op fm hF
    u_op fm hF
    u_op fm hF
    u_op fm hF
    u_op fm hF
    u_c stepG_region_end fm hF
    refine Goes.stop (fun w₁ h₁ => ?_)
    replace hF := fm hF h₁
    clear h₁
    rcases hLM : lvMove xs ys with ⟨L, bb⟩
    have hL : L.length ≤ 24 := by have := lvMove_len xs ys; rw [hLM] at this; exact this
    exact ⟨rfl, hN hF.1 hF.2.1 hF.2.2 hx hy hL hLM (show 1 + 8 < 1000 by omega) fun hb => moved_facts (by rw [hLM, hb])⟩
end
theorem runs_FnLatticeMove : fnLatticeMove.Runs := fun a0 len0 cap0 z0 W w0 hT => by
  obtain ⟨bs, rfl, hr, hc, hm, hv⟩ := w0.bytes
  have h := law_S1 hT.2 hT.1 hr hc hm hv
  rw [← law_enter] at h
  exact farm_run h rfl rfl rfl fun b h => h
theorem proof_FnLatticeMove : Rows.FnLatticeMoveCardSaid := fnLatticeMove.proved_of runs_FnLatticeMove
#print axioms proof_FnLatticeMove
end Go.Proofs.YtiodikflmijhkaaGreatDoor
end
