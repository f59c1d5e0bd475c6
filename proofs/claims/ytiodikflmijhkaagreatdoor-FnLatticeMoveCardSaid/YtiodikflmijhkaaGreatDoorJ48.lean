/- Joined texts: G42 G43. -/
import Derived.Test.YtiodikflmijhkaaGreatDoorJ47
section
set_option linter.unusedSectionVars false
set_option linter.unusedVariables false
set_option linter.unusedSimpArgs false
namespace Go.Proofs.YtiodikflmijhkaaGreatDoor
open Go Go.Conc Go.ConcN Go.RowKit Farm
open Vow (tp)
open Go.ConcR (KK wgBlock WgAt stA smA rd wr mk Payload Aside2 DC0)
attribute [local irreducible] cN syn vecB permB lmL

def dL : List FuncId := [4, 12, 13, 14, 26, 27, 28, 29, 30, 31, 32, 33, 34, 35, 36, 44, 45, 55, 56, 57, 58, 59, 60, 61, 62, 63, 64, 65, 66, 67, 98, 99, 100, 101, 102, 103, 104, 105, 106, 107, 108, 133, 134, 135, 136, 137, 147, 148]
def dF (f : FuncId) : Bool := dL.contains f
def scD : Nmo.Scope := ⟨fun f => dF f = true, 3⟩
theorem all_drawn : (dL.all fun f => Nmo.funcB Tryz.prog dF f) = true := by kernel_rfl
theorem all_ready : ((Tryz.prog).funcs.toList.all fun f => ((f.body.map readies).getD []).all (fun g => Nat.blt g 3)) = true := by kernel_rfl
theorem step_none (g : Nat) (hg : 3 ≤ g) : Program.stepOf Tryz.prog g = none := by
  unfold Program.stepOf
  rw [Array.findIdx?_eq_none_iff]
  intro f hf
  have h1 := List.all_eq_true.1 all_ready f (Array.mem_toList_iff.2 hf)
  cases hb : f.body with
  | none => rfl
  | some c =>
    rw [hb] at h1
    have h2 : ((readies c).all fun g => Nat.blt g 3) = true := h1
    show (readies c).contains g = false
    rw [Bool.eq_false_iff]
    intro h3
    have h4 := List.all_eq_true.1 h2 g (by simpa using h3)
    rw [Nat.blt_eq] at h4
    omega
theorem fitsD : Nmo.Fits scD Tryz.prog dF :=
  ⟨fun f h => h, fun f h => List.all_eq_true.1 all_drawn f (by
    have h' : dL.contains f = true := h
    simpa using h'), fun fr cs g w hg => by
    unfold Go.early
    have hf : (Tryz.prog).follows .staticDataAhead = true := by kernel_rfl
    simp only [hf, step_none g hg, Bool.not_true, Bool.false_eq_true, if_false]
    exact ⟨_, _, _, rfl⟩⟩
theorem scopeD : Nmo.ScopeOk scD Tryz.prog := Nmo.scope_ok fitsD
theorem resD2 {P : Program} {fn : Func} {t u : Tmp} (h : fn.results = #[.tmp t, .tmp u]) (tmps : Array Value) : ∃ v, ResultsC P fn tmps v := ⟨_, resultsC_tmp2 h tmps⟩

/-- The starter's state while nobody has been started: it may do all. -/
def stP : MSt := ⟨.law, 0, 0, 0, 1, fun _ => False, fun _ => True, fun _ => False, fun _ => False, fun _ => []⟩
/-- What is left alone behind the drawing: all that is no row of ints, and the arguments' blocks. -/
def DP (W w : World) : Nat → Prop := Dk (fun q => IntRow w q ∧ (W.heap.size ≤ q ∨ gL q = true)) w.heap.size
theorem startQ {W w : World} (hb : Below W.heap.size W w) (tb : ∀ g, gL g = true → IntRow w g) (t3 : Tab3 w) : LQ stP (DP W w) W w :=
  ⟨⟨rfl, rfl, fun b _ => ⟨trivial, id⟩, fun b _ => ⟨id, id⟩, fun b _ => trivial, fun b h => h.elim, fun g hg hd => hd.2 ⟨tb g hg, .inr hg⟩⟩, heapOk_dk fun b h => h.1, hb, tb, t3⟩
section
variable {W w : World} {Fin : Value → World → Prop} {b : Frame} {a : Act} {k : List Item} {cs : List Frame} {ops : Array Oper} {i : Nat} {rest : List Nat} {o : Oper} {args : Array Operand} {ats : Array TypeId}
theorem draw_step {A : Option Addr} {c : Nat} {bs : List Int} (hb : Below W.heap.size W w) (tb : ∀ g, gL g = true → IntRow w g) (t3 : Tab3 w) (hr : Rds w w.heap.size .u8 A bs) (hc : bs.length ≤ c) (hm : c ≤ maxLen) (hv : ∀ i, 0 ≤ bs.getD i 0 ∧ bs.getD i 0 ≤ 255)
    (ho : ops[i]? = some o) (hwt : Region.wanted o (yielded ops a.tmps) = true) (hk : b.kind ≠ .early) (hop : o.op = .call { callee := .value (.func 4), args, argTypes := ats }) (hargs : args.map a.eval = #[.slice A bs.length c])
    (hK : ∀ D w2 v1 v2 xs ys, LQ stP D W w2 → Lq D w2 v1 xs → Lq D w2 v2 ys → xs.length ≤ 24 → ys.length ≤ 24 → Done Tryz.prog 71 Fin stP (G (b.at (a.put o.dst (.tuple #[v1, v2])) (.inRegion ops rest :: k)) cs) w2) :
    Done Tryz.prog 71 Fin stP (G (b.at a (.inRegion ops (i :: rest) :: k)) cs) w := by
  have hcl : Nmo.Cells scD.N w := fun g hg => by
    have hg3 : gL g = true := by
      have : g < 3 := hg
      match g, this with
      | 0, _ => rfl
      | 1, _ => rfl
      | 2, _ => rfl
    obtain ⟨cs, t, f, h1, _⟩ := tb g hg3
    exact ⟨cs, t, f, h1⟩
  refine done_callN (S := scD) (R := fun T d e w' => ∃ (v v2 : Value) (xs ys : List Int), e = .returned (.tuple #[v, v2]) ∧ OwnI w' w.heap.size v xs ∧ xs.length ≤ 24 ∧ OwnI w' w.heap.size v2 ys ∧ ys.length ≤ 24 ∧ Below w.heap.size (Nmo.tp w T d) w') scopeD rfl (fun b => ⟨trivial, id⟩) ho hwt hk hop Tryz.func4 nqDL rfl (show dF 4 = true by kernel_rfl) (resD2 rfl) hargs hcl (fun T d => DrawLatticeMove_callsI A c bs (Nmo.tp w T d) hr hc hm hv) (fun T d e w' h => let ⟨v, v2, xs, ys, h1, _⟩ := h; ⟨_, h1⟩) fun v w3 T d T' d' hr hw3 htp => ?_
  obtain ⟨v1, v2, xs, ys, he, o1, l1, o2, l2, hb0⟩ := hr
  cases he
  have hb2 : Below w.heap.size w w3 := ⟨hb0.os, htp, hb0.output, hb0.size, hb0.block⟩
  have hb3 : Below W.heap.size W w3 := hb.trans (hb2.mono hb.size)
  have hs := hb.size
  have tb3 : ∀ g, gL g = true → IntRow w3 g := fun g hg => (tb g hg).below hb2 (tb g hg).lt
  have hD : ∀ g, w.heap.size ≤ g → IntRow w3 g → ¬ DP W w3 g := fun g hg hi hd => hd.2 ⟨hi, .inl (by omega)⟩
  exact hK _ w3 v1 v2 xs ys (startQ hb3 tb3 (t3.below hb2 t3.lt)) (Lq.of_ownI (w := w3) o1 hD) (Lq.of_ownI (w := w3) o2 hD) l1 l2
end
end Go.Proofs.YtiodikflmijhkaaGreatDoor
end

section
set_option linter.unusedSectionVars false
set_option linter.unusedVariables false
set_option linter.unusedSimpArgs false
namespace Go.Proofs.YtiodikflmijhkaaGreatDoor
open Go Go.Conc Go.ConcN Go.RowKit Go.Conc.Lib Go.ConcR.Gen Go.ConcN.Gen Farm Vow
open Go.ConcR (KK wgBlock WgAt stA smA rd wr mk Payload Aside2 DC0)
attribute [local irreducible] cN syn lvMove lmL vecB permB keepsB latB plTurned lvShape

noncomputable def bodyW : Code := Tryz.f3.body.getD .skip
abbrev b3 : Frame := base 3
abbrev FinL (W : World) : Value → World → Prop := fun v W' => v = .bool true ∧ Below W.heap.size W W'
noncomputable def tl : Code → Code | .seq _ r => r | _ => .skip
noncomputable def tls : Nat → Code → Code | 0, c => c | n + 1, c => tl (tls n c)
noncomputable def RW (n : Nat) : Code := tls n bodyW

section
variable {st : MSt} {D : Nat → Prop} {W w : World} {A : Option Addr} {n1 c1 : Nat} {xs ys L T Z : List Int} {bb : Bool} {vv pv gv mv tv iv yv zv : Value}
set_option maxRecDepth 100000 in
set_option maxHeartbeats 16000000 in
theorem law_S6 {u0 u1 u2 u6 u7 u8 u9 u17 u18 u19 u20 u21 u22 u23 u24 u25 u26 u27 u28 u29 u30 u31 u32 u33 u34 u35 u36 u37 u38 u39 u40 u41 u42 u43 u44 u45 u46 u47 u48 u49 u50 u51 u52 u53 u54 u55 u56 u57 u58 u59 u60 u61 u62 u63 u64 u65 u66 u67 u68 u69 u70 u71 u72 u73 u74 u75 u76 u77 u78 u79 u80 u81 u82 u83 u84 u85 u86 u87 u88 u89 u90 u91 u92 u93 u94 u95 u96 u97 u98 u99 u100 u101 u102 u103 u104 u105 u106 u107 u108 u109 u110 : Value} (h : LQ st D W w) (lv : Lq D w vv xs) (lp : Lq D w pv ys) (lg : Lq D w gv L) (li : Lq D w iv xs) (ly : Lw D w yv Z) (lz : Lw D w zv Z) (hx : xs.length ≤ 24) (hy : ys.length ≤ 24) (hL : L.length ≤ 24) (hZ : Z.length ≤ 24) (hlat : keepsB ys = true → latB L = latB xs) :
    Done Tryz.prog 71 (FinL W) st (G (b3.at ⟨#[u0, u1, u2, vv, pv, gv, u6, u7, u8, u9, .bool true, iv, .bool true, yv, .bool true, zv, .bool true, u17, u18, u19, u20, u21, u22, u23, u24, u25, u26, u27, u28, u29, u30, u31, u32, u33, u34, u35, u36, u37, u38, u39, u40, u41, u42, u43, u44, u45, u46, u47, u48, u49, u50, u51, u52, u53, u54, u55, u56, u57, u58, u59, u60, u61, u62, u63, u64, u65, u66, u67, u68, u69, u70, u71, u72, u73, u74, u75, u76, u77, u78, u79, u80, u81, u82, u83, u84, u85, u86, u87, u88, u89, u90, u91, u92, u93, u94, u95, u96, u97, u98, u99, u100, u101, u102, u103, u104, u105, u106, u107, u108, u109, u110], []⟩ [.code (RW 10)]) []) w := by
  have htag := h.hP.tag
  have hd := h.hP.d
  have hF : (LQ st D W w ∧ Lq D w vv xs ∧ Lq D w pv ys ∧ Lq D w gv L ∧ Lq D w iv xs ∧ Lw D w yv Z ∧ Lw D w zv Z) := ⟨h, lv, lp, lg, li, ly, lz⟩
  clear h lv lp lg li ly lz
  simp only [RW, tls, tl, bodyW, Tryz.f3, Option.getD_some]
  have fm : ∀ {w w₁ : World}, (LQ st D W w ∧ Lq D w vv xs ∧ Lq D w pv ys ∧ Lq D w gv L ∧ Lq D w iv xs ∧ Lw D w yv Z ∧ Lw D w zv Z) → ROf 71 st w w₁ → (LQ st D W w₁ ∧ Lq D w₁ vv xs ∧ Lq D w₁ pv ys ∧ Lq D w₁ gv L ∧ Lq D w₁ iv xs ∧ Lw D w₁ yv Z ∧ Lw D w₁ zv Z) := fun hh rr => at_rely (F := fun w => (LQ st D W w ∧ Lq D w vv xs ∧ Lq D w pv ys ∧ Lq D w gv L ∧ Lq D w iv xs ∧ Lw D w yv Z ∧ Lw D w zv Z)) (fun w d h => ⟨h.1.at d, h.2⟩) htag hh rr
  refine done_silent (n := 70) htag hd ?_
  u_c stepG_seq fm hF
  u_reg fm hF
  u_op fm hF
  u_op fm hF
  u_op fm hF
  u_op fm hF
  u_op fm hF
  u_op fm hF
  u_op fm hF
  u_op fm hF
  u_op fm hF
  u_op fm hF
  u_op fm hF
  u_op fm hF
  u_op fm hF
  refine Goes.stop (fun w₁ h₁ => ?_)
  replace hF := fm hF h₁
  clear h₁
  refine ⟨rfl, same_step hF.1 hF.2.2.2.2.1.weak hF.2.1.weak hx rfl rfl (by k_ne) rfl (by walk_nrm <;> rfl) fun w2 hB hb => ?_⟩
  have hF2 : (LQ st D W w2 ∧ Lq D w2 vv xs ∧ Lq D w2 pv ys ∧ Lq D w2 gv L ∧ Lq D w2 iv xs ∧ Lw D w2 yv Z ∧ Lw D w2 zv Z) := ⟨hB, hF.2.1.below hb, hF.2.2.1.below hb, hF.2.2.2.1.below hb, hF.2.2.2.2.1.below hb, hF.2.2.2.2.2.1.below hb, hF.2.2.2.2.2.2.below hb⟩
  clear fm hF hB hb
  have hF := hF2
  clear hF2
  walk_nrm
  have fm : ∀ {w w₁ : World}, (LQ st D W w ∧ Lq D w vv xs ∧ Lq D w pv ys ∧ Lq D w gv L ∧ Lq D w iv xs ∧ Lw D w yv Z ∧ Lw D w zv Z) → ROf 71 st w w₁ → (LQ st D W w₁ ∧ Lq D w₁ vv xs ∧ Lq D w₁ pv ys ∧ Lq D w₁ gv L ∧ Lq D w₁ iv xs ∧ Lw D w₁ yv Z ∧ Lw D w₁ zv Z) := fun hh rr => at_rely (F := fun w => (LQ st D W w ∧ Lq D w vv xs ∧ Lq D w pv ys ∧ Lq D w gv L ∧ Lq D w iv xs ∧ Lw D w yv Z ∧ Lw D w zv Z)) (fun w d h => ⟨h.1.at d, h.2⟩) htag hh rr
  refine done_silent (n := 70) htag hd ?_
  u_op fm hF
  u_op fm hF
  u_op fm hF
  u_op fm hF
  refine Goes.stop (fun w₁ h₁ => ?_)
  replace hF := fm hF h₁
  clear h₁
  refine ⟨rfl, same_step hF.1 hF.2.2.2.2.2.1 hF.2.2.2.2.2.2 hZ rfl rfl (by k_ne) rfl (by walk_nrm <;> rfl) fun w2 hB hb => ?_⟩
  have hF2 : (LQ st D W w2 ∧ Lq D w2 vv xs ∧ Lq D w2 pv ys ∧ Lq D w2 gv L ∧ Lq D w2 iv xs ∧ Lw D w2 yv Z ∧ Lw D w2 zv Z) := ⟨hB, hF.2.1.below hb, hF.2.2.1.below hb, hF.2.2.2.1.below hb, hF.2.2.2.2.1.below hb, hF.2.2.2.2.2.1.below hb, hF.2.2.2.2.2.2.below hb⟩
  clear fm hF hB hb
  have hF := hF2
  clear hF2
  walk_nrm
  have fm : ∀ {w w₁ : World}, (LQ st D W w ∧ Lq D w vv xs ∧ Lq D w pv ys ∧ Lq D w gv L ∧ Lq D w iv xs ∧ Lw D w yv Z ∧ Lw D w zv Z) → ROf 71 st w w₁ → (LQ st D W w₁ ∧ Lq D w₁ vv xs ∧ Lq D w₁ pv ys ∧ Lq D w₁ gv L ∧ Lq D w₁ iv xs ∧ Lw D w₁ yv Z ∧ Lw D w₁ zv Z) := fun hh rr => at_rely (F := fun w => (LQ st D W w ∧ Lq D w vv xs ∧ Lq D w pv ys ∧ Lq D w gv L ∧ Lq D w iv xs ∧ Lw D w yv Z ∧ Lw D w zv Z)) (fun w d h => ⟨h.1.at d, h.2⟩) htag hh rr
  refine done_silent (n := 70) htag hd ?_
  u_op fm hF
  u_op fm hF
  u_op fm hF
  refine Goes.stop (fun w₁ h₁ => ?_)
  replace hF := fm hF h₁
  clear h₁
  refine ⟨rfl, keeps_step hF.1 hF.2.2.1 hy rfl rfl (by k_ne) rfl (by walk_nrm <;> rfl) fun w2 hB hb => ?_⟩
  have hF2 : (LQ st D W w2 ∧ Lq D w2 vv xs ∧ Lq D w2 pv ys ∧ Lq D w2 gv L ∧ Lq D w2 iv xs ∧ Lw D w2 yv Z ∧ Lw D w2 zv Z) := ⟨hB, hF.2.1.below hb, hF.2.2.1.below hb, hF.2.2.2.1.below hb, hF.2.2.2.2.1.below hb, hF.2.2.2.2.2.1.below hb, hF.2.2.2.2.2.2.below hb⟩
  clear fm hF hB hb
  have hF := hF2
  clear hF2
  walk_nrm
  rcases hkb : keepsB ys with _ | _
  · skip
    have fm : ∀ {w w₁ : World}, (LQ st D W w ∧ Lq D w vv xs ∧ Lq D w pv ys ∧ Lq D w gv L ∧ Lq D w iv xs ∧ Lw D w yv Z ∧ Lw D w zv Z) → ROf 71 st w w₁ → (LQ st D W w₁ ∧ Lq D w₁ vv xs ∧ Lq D w₁ pv ys ∧ Lq D w₁ gv L ∧ Lq D w₁ iv xs ∧ Lw D w₁ yv Z ∧ Lw D w₁ zv Z) := fun hh rr => at_rely (F := fun w => (LQ st D W w ∧ Lq D w vv xs ∧ Lq D w pv ys ∧ Lq D w gv L ∧ Lq D w iv xs ∧ Lw D w yv Z ∧ Lw D w zv Z)) (fun w d h => ⟨h.1.at d, h.2⟩) htag hh rr
    refine done_silent (n := 70) htag hd ?_
    u_op fm hF
    u_op fm hF
    u_skip fm hF
    u_skip fm hF
    u_skip fm hF
    u_skip fm hF
    u_skip fm hF
    u_op fm hF
    u_op fm hF
    u_op fm hF
    u_c stepG_region_end fm hF
    u_c stepG_ret' fm hF
    refine Goes.stop (fun w₁ h₁ => ?_)
    replace hF := fm hF h₁
    clear h₁
    exact ⟨rfl, done_ret htag rfl rfl rfl Tryz.func3 (by kernel_rfl) (resultsC_tmp (t := 2) rfl _) fun d => ⟨rfl, below_at hF.1.hb⟩⟩
  · have hlt := hlat hkb
    have fm : ∀ {w w₁ : World}, (LQ st D W w ∧ Lq D w vv xs ∧ Lq D w pv ys ∧ Lq D w gv L ∧ Lq D w iv xs ∧ Lw D w yv Z ∧ Lw D w zv Z) → ROf 71 st w w₁ → (LQ st D W w₁ ∧ Lq D w₁ vv xs ∧ Lq D w₁ pv ys ∧ Lq D w₁ gv L ∧ Lq D w₁ iv xs ∧ Lw D w₁ yv Z ∧ Lw D w₁ zv Z) := fun hh rr => at_rely (F := fun w => (LQ st D W w ∧ Lq D w vv xs ∧ Lq D w pv ys ∧ Lq D w gv L ∧ Lq D w iv xs ∧ Lw D w yv Z ∧ Lw D w zv Z)) (fun w d h => ⟨h.1.at d, h.2⟩) htag hh rr
    refine done_silent (n := 70) htag hd ?_
    u_op fm hF
    u_op fm hF
    u_op fm hF
    refine Goes.stop (fun w₁ h₁ => ?_)
    replace hF := fm hF h₁
    clear h₁
    refine ⟨rfl, latin_step hF.1 hF.2.2.2.1.weak hL rfl rfl (by k_ne) rfl (by walk_nrm <;> rfl) fun w2 hB hb => ?_⟩
    have hF2 : (LQ st D W w2 ∧ Lq D w2 vv xs ∧ Lq D w2 pv ys ∧ Lq D w2 gv L ∧ Lq D w2 iv xs ∧ Lw D w2 yv Z ∧ Lw D w2 zv Z) := ⟨hB, hF.2.1.below hb, hF.2.2.1.below hb, hF.2.2.2.1.below hb, hF.2.2.2.2.1.below hb, hF.2.2.2.2.2.1.below hb, hF.2.2.2.2.2.2.below hb⟩
    clear fm hF hB hb
    have hF := hF2
    clear hF2
    walk_nrm
    have fm : ∀ {w w₁ : World}, (LQ st D W w ∧ Lq D w vv xs ∧ Lq D w pv ys ∧ Lq D w gv L ∧ Lq D w iv xs ∧ Lw D w yv Z ∧ Lw D w zv Z) → ROf 71 st w w₁ → (LQ st D W w₁ ∧ Lq D w₁ vv xs ∧ Lq D w₁ pv ys ∧ Lq D w₁ gv L ∧ Lq D w₁ iv xs ∧ Lw D w₁ yv Z ∧ Lw D w₁ zv Z) := fun hh rr => at_rely (F := fun w => (LQ st D W w ∧ Lq D w vv xs ∧ Lq D w pv ys ∧ Lq D w gv L ∧ Lq D w iv xs ∧ Lw D w yv Z ∧ Lw D w zv Z)) (fun w d h => ⟨h.1.at d, h.2⟩) htag hh rr
    refine done_silent (n := 70) htag hd ?_
    u_op fm hF
    refine Goes.stop (fun w₁ h₁ => ?_)
    replace hF := fm hF h₁
    clear h₁
    refine ⟨rfl, latin_step hF.1 hF.2.1.weak hx rfl rfl (by k_ne) rfl (by walk_nrm <;> rfl) fun w2 hB hb => ?_⟩
    have hF2 : (LQ st D W w2 ∧ Lq D w2 vv xs ∧ Lq D w2 pv ys ∧ Lq D w2 gv L ∧ Lq D w2 iv xs ∧ Lw D w2 yv Z ∧ Lw D w2 zv Z) := ⟨hB, hF.2.1.below hb, hF.2.2.1.below hb, hF.2.2.2.1.below hb, hF.2.2.2.2.1.below hb, hF.2.2.2.2.2.1.below hb, hF.2.2.2.2.2.2.below hb⟩
    clear fm hF hB hb
    have hF := hF2
    clear hF2
    walk_nrm
    try rw [hlt]
    rcases latB xs with _ | _
    · have hev : ∀ w : World, (binOp BinOp.eql 4 (.bool false) (.bool false)).events Tryz.prog w #[] = #[] := fun w => by kernel_rfl
      have fm : ∀ {w w₁ : World}, (LQ st D W w ∧ Lq D w vv xs ∧ Lq D w pv ys ∧ Lq D w gv L ∧ Lq D w iv xs ∧ Lw D w yv Z ∧ Lw D w zv Z) → ROf 71 st w w₁ → (LQ st D W w₁ ∧ Lq D w₁ vv xs ∧ Lq D w₁ pv ys ∧ Lq D w₁ gv L ∧ Lq D w₁ iv xs ∧ Lw D w₁ yv Z ∧ Lw D w₁ zv Z) := fun hh rr => at_rely (F := fun w => (LQ st D W w ∧ Lq D w vv xs ∧ Lq D w pv ys ∧ Lq D w gv L ∧ Lq D w iv xs ∧ Lw D w yv Z ∧ Lw D w zv Z)) (fun w d h => ⟨h.1.at d, h.2⟩) htag hh rr
      refine done_silent (n := 70) htag hd ?_
      u_op fm hF
      u_op fm hF
      u_op fm hF
      u_op fm hF
      u_c stepG_region_end fm hF
      u_c stepG_ret' fm hF
      refine Goes.stop (fun w₁ h₁ => ?_)
      replace hF := fm hF h₁
      clear h₁
      exact ⟨rfl, done_ret htag rfl rfl rfl Tryz.func3 (by kernel_rfl) (resultsC_tmp (t := 2) rfl _) fun d => ⟨rfl, below_at hF.1.hb⟩⟩
    · have hev : ∀ w : World, (binOp BinOp.eql 4 (.bool true) (.bool true)).events Tryz.prog w #[] = #[] := fun w => by kernel_rfl
      have fm : ∀ {w w₁ : World}, (LQ st D W w ∧ Lq D w vv xs ∧ Lq D w pv ys ∧ Lq D w gv L ∧ Lq D w iv xs ∧ Lw D w yv Z ∧ Lw D w zv Z) → ROf 71 st w w₁ → (LQ st D W w₁ ∧ Lq D w₁ vv xs ∧ Lq D w₁ pv ys ∧ Lq D w₁ gv L ∧ Lq D w₁ iv xs ∧ Lw D w₁ yv Z ∧ Lw D w₁ zv Z) := fun hh rr => at_rely (F := fun w => (LQ st D W w ∧ Lq D w vv xs ∧ Lq D w pv ys ∧ Lq D w gv L ∧ Lq D w iv xs ∧ Lw D w yv Z ∧ Lw D w zv Z)) (fun w d h => ⟨h.1.at d, h.2⟩) htag hh rr
      refine done_silent (n := 70) htag hd ?_
      u_op fm hF
      u_op fm hF
      u_op fm hF
      u_op fm hF
      u_c stepG_region_end fm hF
      u_c stepG_ret' fm hF
      refine Goes.stop (fun w₁ h₁ => ?_)
      replace hF := fm hF h₁
      clear h₁
      exact ⟨rfl, done_ret htag rfl rfl rfl Tryz.func3 (by kernel_rfl) (resultsC_tmp (t := 2) rfl _) fun d => ⟨rfl, below_at hF.1.hb⟩⟩
end

end Go.Proofs.YtiodikflmijhkaaGreatDoor
end
