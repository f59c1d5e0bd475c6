/- Joined texts: G4. -/
import Derived.Test.YtiodikflmijhkaaGreatDoorJ22
import Derived.Test.YtiodikflmijhkaaGreatDoorJ12
import Derived.Conc.WgWords
import Derived.Conc.TokenWalk
set_option linter.unusedSectionVars false
set_option linter.unusedVariables false
set_option linter.unusedSimpArgs false
namespace Go.Proofs.YtiodikflmijhkaaGreatDoor
open Go.Conc Go.ConcN Go.RowKit Go.Conc.Lib Go.ConcR.Gen Go.ConcN.Gen Farm
open Go.ConcR (KK wgBlock WgAt stA smA rd wr mk Payload Aside2 DC0)

theorem array26 (T : Array Value) (h : T.size = 26) : ∃ v0 v1 v2 v3 v4 v5 v6 v7 v8 v9 v10 v11 v12 v13 v14 v15 v16 v17 v18 v19 v20 v21 v22 v23 v24 v25 : Value, T = #[v0, v1, v2, v3, v4, v5, v6, v7, v8, v9, v10, v11, v12, v13, v14, v15, v16, v17, v18, v19, v20, v21, v22, v23, v24, v25] := by
  obtain ⟨l⟩ := T
  match l, h with
  | [v0, v1, v2, v3, v4, v5, v6, v7, v8, v9, v10, v11, v12, v13, v14, v15, v16, v17, v18, v19, v20, v21, v22, v23, v24, v25], _ => exact ⟨v0, v1, v2, v3, v4, v5, v6, v7, v8, v9, v10, v11, v12, v13, v14, v15, v16, v17, v18, v19, v20, v21, v22, v23, v24, v25, rfl⟩

section
variable {S : Nat → Prop} {ty : TypeId} {wg : Nat} {w w₁ : World}
theorem dk_nil (w : World) : DK S w w #[] := ⟨⟨w.drawn, rfl⟩, by simp⟩
theorem dk_none {es : Array Event} (h : ∀ e ∈ es, False) : DK S w w es := ⟨⟨w.drawn, rfl⟩, fun e he => (h e he).elim⟩
theorem dk_read {a : Addr} {sy : Bool} (hS : S a.block) (hB : a.block < w.heap.size) {es : Array Event} (h : ∀ e ∈ es, e = ⟨.cell a, false, sy⟩) : DK S w w es := by
  refine ⟨⟨w.drawn, rfl⟩, fun e he => ?_⟩
  rw [h e he]
  refine ⟨fun x hx => ?_, by simp, by simp, by simp, hB⟩
  have e0 : MemAct.ofEvent ⟨.cell a, false, sy⟩ = .access ⟨.cell a, false, sy⟩ := by cases sy <;> rfl
  rw [e0] at hx
  simp only [MemAct.touch?, Option.some.injEq] at hx
  subst hx
  exact ⟨a, rfl, hS, rfl⟩
end

/-- What the worker knows: its copies of the two lists, in blocks of its own. -/
structure KB (S : Nat → Prop) (ty : TypeId) (wg Cv Cp : Nat) (Lv Lp : List Int) (w : World) : Prop where
  v : w.heap[Cv]? = some (.cells (VL Lv) 36)
  p : w.heap[Cp]? = some (.cells (VL Lp) 39)
  live : WgLive ty wg w
  sv : S Cv
  sp : S Cp
theorem kb_rely {S : Nat → Prop} {ty : TypeId} {wg Cv Cp : Nat} {Lv Lp : List Int} {w w₁ : World} (h : KB S ty wg Cv Cp Lv Lp w) (r : RK ty wg S w w₁) : KB S ty wg Cv Cp Lv Lp w₁ :=
  ⟨(r.keep _ h.sv).trans h.v, (r.keep _ h.sp).trans h.p, r.live h.live, h.sv, h.sp⟩
theorem KB.ltv {S : Nat → Prop} {ty : TypeId} {wg Cv Cp : Nat} {Lv Lp : List Int} {w : World} (h : KB S ty wg Cv Cp Lv Lp w) : Cv < w.heap.size := (Array.getElem?_eq_some_iff.1 h.v).1
theorem KB.ltp {S : Nat → Prop} {ty : TypeId} {wg Cv Cp : Nat} {Lv Lp : List Int} {w : World} (h : KB S ty wg Cv Cp Lv Lp w) : Cp < w.heap.size := (Array.getElem?_eq_some_iff.1 h.p).1

theorem idx_v (C : Nat) (k : Nat) (hk : k < 24) (W : World) : (Instr.indexAt 36 (.pointer (some ⟨C, 0, none⟩)) (.int .i64 (k : Int))).run Tryz.prog W = .ok (.pointer (some ((⟨C, 0, none⟩ : Addr).add k))) W := by
  match k, hk with
  | 0, _ => exact (show _ = _ by kernel_rfl)
  | 1, _ => exact (show _ = _ by kernel_rfl)
  | 2, _ => exact (show _ = _ by kernel_rfl)
  | 3, _ => exact (show _ = _ by kernel_rfl)
  | 4, _ => exact (show _ = _ by kernel_rfl)
  | 5, _ => exact (show _ = _ by kernel_rfl)
  | 6, _ => exact (show _ = _ by kernel_rfl)
  | 7, _ => exact (show _ = _ by kernel_rfl)
  | 8, _ => exact (show _ = _ by kernel_rfl)
  | 9, _ => exact (show _ = _ by kernel_rfl)
  | 10, _ => exact (show _ = _ by kernel_rfl)
  | 11, _ => exact (show _ = _ by kernel_rfl)
  | 12, _ => exact (show _ = _ by kernel_rfl)
  | 13, _ => exact (show _ = _ by kernel_rfl)
  | 14, _ => exact (show _ = _ by kernel_rfl)
  | 15, _ => exact (show _ = _ by kernel_rfl)
  | 16, _ => exact (show _ = _ by kernel_rfl)
  | 17, _ => exact (show _ = _ by kernel_rfl)
  | 18, _ => exact (show _ = _ by kernel_rfl)
  | 19, _ => exact (show _ = _ by kernel_rfl)
  | 20, _ => exact (show _ = _ by kernel_rfl)
  | 21, _ => exact (show _ = _ by kernel_rfl)
  | 22, _ => exact (show _ = _ by kernel_rfl)
  | 23, _ => exact (show _ = _ by kernel_rfl)
  | n + 24, h => exact absurd h (by omega)
theorem idx_p (C : Nat) (k : Nat) (hk : k < 24) (W : World) : (Instr.indexAt 39 (.pointer (some ⟨C, 0, none⟩)) (.int .i64 (k : Int))).run Tryz.prog W = .ok (.pointer (some ((⟨C, 0, none⟩ : Addr).add k))) W := by
  match k, hk with
  | 0, _ => exact (show _ = _ by kernel_rfl)
  | 1, _ => exact (show _ = _ by kernel_rfl)
  | 2, _ => exact (show _ = _ by kernel_rfl)
  | 3, _ => exact (show _ = _ by kernel_rfl)
  | 4, _ => exact (show _ = _ by kernel_rfl)
  | 5, _ => exact (show _ = _ by kernel_rfl)
  | 6, _ => exact (show _ = _ by kernel_rfl)
  | 7, _ => exact (show _ = _ by kernel_rfl)
  | 8, _ => exact (show _ = _ by kernel_rfl)
  | 9, _ => exact (show _ = _ by kernel_rfl)
  | 10, _ => exact (show _ = _ by kernel_rfl)
  | 11, _ => exact (show _ = _ by kernel_rfl)
  | 12, _ => exact (show _ = _ by kernel_rfl)
  | 13, _ => exact (show _ = _ by kernel_rfl)
  | 14, _ => exact (show _ = _ by kernel_rfl)
  | 15, _ => exact (show _ = _ by kernel_rfl)
  | 16, _ => exact (show _ = _ by kernel_rfl)
  | 17, _ => exact (show _ = _ by kernel_rfl)
  | 18, _ => exact (show _ = _ by kernel_rfl)
  | 19, _ => exact (show _ = _ by kernel_rfl)
  | 20, _ => exact (show _ = _ by kernel_rfl)
  | 21, _ => exact (show _ = _ by kernel_rfl)
  | 22, _ => exact (show _ = _ by kernel_rfl)
  | 23, _ => exact (show _ = _ by kernel_rfl)
  | n + 24, h => exact absurd h (by omega)
theorem idx_v_ev (C : Nat) (k : Nat) (hk : k < 24) (W : World) (es : Array Event) : (Instr.indexAt 36 (.pointer (some ⟨C, 0, none⟩)) (.int .i64 (k : Int))).events Tryz.prog W es = es := by
  match k, hk with
  | 0, _ => exact (show _ = _ by kernel_rfl)
  | 1, _ => exact (show _ = _ by kernel_rfl)
  | 2, _ => exact (show _ = _ by kernel_rfl)
  | 3, _ => exact (show _ = _ by kernel_rfl)
  | 4, _ => exact (show _ = _ by kernel_rfl)
  | 5, _ => exact (show _ = _ by kernel_rfl)
  | 6, _ => exact (show _ = _ by kernel_rfl)
  | 7, _ => exact (show _ = _ by kernel_rfl)
  | 8, _ => exact (show _ = _ by kernel_rfl)
  | 9, _ => exact (show _ = _ by kernel_rfl)
  | 10, _ => exact (show _ = _ by kernel_rfl)
  | 11, _ => exact (show _ = _ by kernel_rfl)
  | 12, _ => exact (show _ = _ by kernel_rfl)
  | 13, _ => exact (show _ = _ by kernel_rfl)
  | 14, _ => exact (show _ = _ by kernel_rfl)
  | 15, _ => exact (show _ = _ by kernel_rfl)
  | 16, _ => exact (show _ = _ by kernel_rfl)
  | 17, _ => exact (show _ = _ by kernel_rfl)
  | 18, _ => exact (show _ = _ by kernel_rfl)
  | 19, _ => exact (show _ = _ by kernel_rfl)
  | 20, _ => exact (show _ = _ by kernel_rfl)
  | 21, _ => exact (show _ = _ by kernel_rfl)
  | 22, _ => exact (show _ = _ by kernel_rfl)
  | 23, _ => exact (show _ = _ by kernel_rfl)
  | n + 24, h => exact absurd h (by omega)
theorem idx_p_ev (C : Nat) (k : Nat) (hk : k < 24) (W : World) (es : Array Event) : (Instr.indexAt 39 (.pointer (some ⟨C, 0, none⟩)) (.int .i64 (k : Int))).events Tryz.prog W es = es := by
  match k, hk with
  | 0, _ => exact (show _ = _ by kernel_rfl)
  | 1, _ => exact (show _ = _ by kernel_rfl)
  | 2, _ => exact (show _ = _ by kernel_rfl)
  | 3, _ => exact (show _ = _ by kernel_rfl)
  | 4, _ => exact (show _ = _ by kernel_rfl)
  | 5, _ => exact (show _ = _ by kernel_rfl)
  | 6, _ => exact (show _ = _ by kernel_rfl)
  | 7, _ => exact (show _ = _ by kernel_rfl)
  | 8, _ => exact (show _ = _ by kernel_rfl)
  | 9, _ => exact (show _ = _ by kernel_rfl)
  | 10, _ => exact (show _ = _ by kernel_rfl)
  | 11, _ => exact (show _ = _ by kernel_rfl)
  | 12, _ => exact (show _ = _ by kernel_rfl)
  | 13, _ => exact (show _ = _ by kernel_rfl)
  | 14, _ => exact (show _ = _ by kernel_rfl)
  | 15, _ => exact (show _ = _ by kernel_rfl)
  | 16, _ => exact (show _ = _ by kernel_rfl)
  | 17, _ => exact (show _ = _ by kernel_rfl)
  | 18, _ => exact (show _ = _ by kernel_rfl)
  | 19, _ => exact (show _ = _ by kernel_rfl)
  | 20, _ => exact (show _ = _ by kernel_rfl)
  | 21, _ => exact (show _ = _ by kernel_rfl)
  | 22, _ => exact (show _ = _ by kernel_rfl)
  | 23, _ => exact (show _ = _ by kernel_rfl)
  | n + 24, h => exact absurd h (by omega)
theorem bld (x y : Int) (W : World) : (Instr.build 75 #[(0, .int .i64 x), (1, .int .i64 y)]).run Tryz.prog W = .ok (.agg #[.int .i64 x, .int .i64 y]) W := by kernel_rfl
theorem bld_ev (x y : Int) (W : World) (es : Array Event) : (Instr.build 75 #[(0, .int .i64 x), (1, .int .i64 y)]).events Tryz.prog W es = es := by kernel_rfl
theorem add0 (C k : Nat) : ((⟨C, 0, none⟩ : Addr).add k) = ⟨C, k, none⟩ := by
  unfold Addr.add
  split
  · subst_vars; rfl
  · simp

noncomputable def bodyS : Code := Tryz.f42.body.getD .skip
noncomputable def LS : Code := match bodyS with | .seq _ (.seq (.seq _ (.block _ (.loop c))) _) => c | _ => .skip
noncomputable def RS : Code := match bodyS with | .seq _ (.seq _ r) => r | _ => .skip
noncomputable def opsS : Array Oper := match LS with | .seq _ (.seq _ (.seq (.block _ (.seq _ (.seq _ (.region _ ops _)))) _)) => ops | _ => #[]
noncomputable def R6 : Code := match LS with | .seq _ (.seq _ (.seq _ r)) => r | _ => .skip
abbrev bS : Frame := base 42

/-! ### the drawn region: whichever operation comes up -/
/-- What the temporaries hold once the operations of 'ls' are done. -/
structure Dr (Cv Cp c : Nat) (row : Int) (k pl : Nat) (x y : Int) (ls : Array Bool) (T : Array Value) : Prop where
  size : T.size = 26
  t1 : T[1]? = some (.int .i64 row)
  t3 : T[3]? = some (.chan (some c))
  t4 : T[4]? = some (.pointer (some ⟨Cv, 0, none⟩))
  t6 : T[6]? = some (.pointer (some ⟨Cp, 0, none⟩))
  t9 : T[9]? = some (.int .i64 pl)
  t10 : T[10]? = some (.int .i64 k)
  d0 : ls.getD 0 false = true → T[16]? = some (.chan (some c))
  d1 : ls.getD 1 false = true → T[17]? = some (.int .i64 pl)
  d2 : ls.getD 2 false = true → T[18]? = some (.pointer (some ⟨Cv, pl, none⟩))
  d3 : ls.getD 3 false = true → T[19]? = some (.int .i64 x)
  d4 : ls.getD 4 false = true → T[20]? = some (.int .i64 pl)
  d5 : ls.getD 5 false = true → T[21]? = some (.pointer (some ⟨Cp, pl, none⟩))
  d6 : ls.getD 6 false = true → T[22]? = some (.int .i64 y)
  d7 : ls.getD 7 false = true → T[23]? = some (.agg #[.int .i64 x, .int .i64 y])
  c2 : ls.getD 2 false = true → ls.getD 1 false = true
  c3 : ls.getD 3 false = true → ls.getD 2 false = true
  c5 : ls.getD 5 false = true → ls.getD 4 false = true
  c6 : ls.getD 6 false = true → ls.getD 5 false = true
  c7 : ls.getD 7 false = true → ls.getD 3 false = true ∧ ls.getD 6 false = true
theorem go_acc (m : Region.Mode) (ops : Array Oper) : ∀ (fuel t : Nat) (ls : Array Bool) (acc : List Nat), Region.linearise.go m ops fuel t ls acc = acc.reverse ++ Region.linearise.go m ops fuel t ls []
  | 0, _, _, acc => by simp [Region.linearise.go]
  | fuel + 1, t, ls, acc => by
    simp only [Region.linearise.go]
    split
    · rw [go_acc m ops fuel _ _ (_ :: acc), go_acc m ops fuel _ _ [_]]; simp
    · simp
/-- Which operations are ready. -/
def rdy (m : Region.Mode) (ops : Array Oper) (ls : Array Bool) : List Nat := (List.range ops.size).filter fun i => !ls.getD i true && ((ops[i]?).map (·.after.all fun e => !Region.binds m e || ls.getD e.on false)).getD false
theorem go_next (m : Region.Mode) (ops : Array Oper) (fuel t : Nat) (ls : Array Bool) (hne : rdy m ops ls ≠ []) :
    ∃ i t', i ∈ rdy m ops ls ∧ Region.linearise.go m ops (fuel + 1) t ls [] = i :: Region.linearise.go m ops fuel t' (ls.setIfInBounds i true) [] := by
  have hl : 0 < (rdy m ops ls).length := List.length_pos_iff.2 hne
  have hlt := Nat.mod_lt t hl
  refine ⟨(rdy m ops ls)[t % (rdy m ops ls).length], t / (rdy m ops ls).length, List.getElem_mem _, ?_⟩
  have e : (rdy m ops ls)[t % (rdy m ops ls).length]? = some (rdy m ops ls)[t % (rdy m ops ls).length] := List.getElem?_eq_getElem hlt
  rw [Region.linearise.go]
  show (match (rdy m ops ls)[t % (rdy m ops ls).length]? with | some i => _ | none => _ : List Nat) = _
  rw [e]
  exact go_acc m ops fuel _ _ [_]
theorem go_done (m : Region.Mode) (ops : Array Oper) (fuel t : Nat) (ls : Array Bool) (h : rdy m ops ls = []) : Region.linearise.go m ops fuel t ls [] = [] := by
  cases fuel with
  | zero => rfl
  | succ fuel =>
    rw [Region.linearise.go]
    show (match (rdy m ops ls)[t % (rdy m ops ls).length]? with | some i => _ | none => _ : List Nat) = _
    rw [h]
    rfl

theorem rdy_S (m : Region.Mode) {l0 l1 l2 l3 l4 l5 l6 l7 l8 : Bool} : ∀ i ∈ rdy m opsS #[l0, l1, l2, l3, l4, l5, l6, l7, l8], (i = 0 ∧ l0 = false) ∨ (i = 1 ∧ l1 = false) ∨ (i = 2 ∧ l2 = false ∧ l1 = true) ∨ (i = 3 ∧ l3 = false ∧ l2 = true) ∨ (i = 4 ∧ l4 = false) ∨ (i = 5 ∧ l5 = false ∧ l4 = true) ∨ (i = 6 ∧ l6 = false ∧ l5 = true) ∨ (i = 7 ∧ l7 = false ∧ l3 = true ∧ l6 = true) ∨ (i = 8 ∧ l8 = false ∧ l0 = true ∧ l7 = true) := by
  intro i hi
  simp only [rdy, List.mem_filter, List.mem_range] at hi
  obtain ⟨h1, h2⟩ := hi
  have h9 : i < 9 := h1
  match i, h9 with
  | 0, _ => simp [opsS, LS, bodyS, Tryz.f42, Region.binds] at h2; simp [h2]
  | 1, _ => simp [opsS, LS, bodyS, Tryz.f42, Region.binds] at h2; simp [h2]
  | 2, _ => simp [opsS, LS, bodyS, Tryz.f42, Region.binds] at h2; simp [h2]
  | 3, _ => simp [opsS, LS, bodyS, Tryz.f42, Region.binds] at h2; simp [h2]
  | 4, _ => simp [opsS, LS, bodyS, Tryz.f42, Region.binds] at h2; simp [h2]
  | 5, _ => simp [opsS, LS, bodyS, Tryz.f42, Region.binds] at h2; simp [h2]
  | 6, _ => simp [opsS, LS, bodyS, Tryz.f42, Region.binds] at h2; simp [h2]
  | 7, _ => simp [opsS, LS, bodyS, Tryz.f42, Region.binds] at h2; simp [h2]
  | 8, _ => simp [opsS, LS, bodyS, Tryz.f42, Region.binds] at h2; simp [h2]
  | n + 9, h => exact absurd h (by omega)
theorem rdy_ne (m : Region.Mode) {l0 l1 l2 l3 l4 l5 l6 l7 l8 : Bool} (c2 : l2 = true → l1 = true) (c3 : l3 = true → l2 = true) (c5 : l5 = true → l4 = true) (c6 : l6 = true → l5 = true) (c7 : l7 = true → l3 = true ∧ l6 = true) (h8 : l8 = false) : rdy m opsS #[l0, l1, l2, l3, l4, l5, l6, l7, l8] ≠ [] := by
  have key : ∀ i, i < 9 → ((!((#[l0, l1, l2, l3, l4, l5, l6, l7, l8] : Array Bool).getD i true) && ((opsS[i]?).map (·.after.all fun e => !Region.binds m e || (#[l0, l1, l2, l3, l4, l5, l6, l7, l8] : Array Bool).getD e.on false)).getD false) = true) → rdy m opsS #[l0, l1, l2, l3, l4, l5, l6, l7, l8] ≠ [] := fun i hi h e => by
    have : i ∈ rdy m opsS #[l0, l1, l2, l3, l4, l5, l6, l7, l8] := List.mem_filter.2 ⟨List.mem_range.2 hi, h⟩
    rw [e] at this; cases this
  by_cases e0 : l0 = true
  rotate_left
  · have f0 : l0 = false := by simpa using e0
    exact key 0 (by omega) (by simp [opsS, LS, bodyS, Tryz.f42, Region.binds, *])
  by_cases e1 : l1 = true
  rotate_left
  · have f1 : l1 = false := by simpa using e1
    exact key 1 (by omega) (by simp [opsS, LS, bodyS, Tryz.f42, Region.binds, *])
  by_cases e2 : l2 = true
  rotate_left
  · have f2 : l2 = false := by simpa using e2
    exact key 2 (by omega) (by simp [opsS, LS, bodyS, Tryz.f42, Region.binds, *])
  by_cases e3 : l3 = true
  rotate_left
  · have f3 : l3 = false := by simpa using e3
    exact key 3 (by omega) (by simp [opsS, LS, bodyS, Tryz.f42, Region.binds, *])
  by_cases e4 : l4 = true
  rotate_left
  · have f4 : l4 = false := by simpa using e4
    exact key 4 (by omega) (by simp [opsS, LS, bodyS, Tryz.f42, Region.binds, *])
  by_cases e5 : l5 = true
  rotate_left
  · have f5 : l5 = false := by simpa using e5
    exact key 5 (by omega) (by simp [opsS, LS, bodyS, Tryz.f42, Region.binds, *])
  by_cases e6 : l6 = true
  rotate_left
  · have f6 : l6 = false := by simpa using e6
    exact key 6 (by omega) (by simp [opsS, LS, bodyS, Tryz.f42, Region.binds, *])
  by_cases e7 : l7 = true
  rotate_left
  · have f7 : l7 = false := by simpa using e7
    exact key 7 (by omega) (by simp [opsS, LS, bodyS, Tryz.f42, Region.binds, *])
  exact key 8 (by omega) (by simp [opsS, LS, bodyS, Tryz.f42, Region.binds, *])

theorem evalT {T : Array Value} {ds : List Deferred} {t : Nat} {v : Value} (h : T[t]? = some v) : (⟨T, ds⟩ : Act).eval (.tmp t) = v := by
  show T.getD t undef = v
  rw [Array.getD_eq_getD_getElem?, h]; rfl
theorem setT {T : Array Value} {d t : Nat} {v : Value} (hd : d < T.size) : (T.setIfInBounds d v)[t]? = if d = t then some v else T[t]? := by
  rw [Array.getElem?_setIfInBounds]
  simp only [hd, if_true]

section
variable {S : Nat → Prop} {ty : TypeId} {wg Cv Cp c : Nat} {Lv Lp : List Int} {row : Int} {k pl : Nat} {x y : Int} {kk : List Item} {cs : List Frame} {T : Array Value} {w : World}

theorem dr_step {i d n : Nat} {op : Op} {v : Value} {rest : List Nat} {Stop : Goroutine → World → Prop} (ho : opsS[i]?.map (fun o => (o.op, o.dst, o.guard)) = some (op, some d, none))
    (hr : ∀ w₁ o, o.op = op → RK ty wg S w w₁ → (execOp (⟨T, []⟩ : Act).eval o).run Tryz.prog w₁ = .ok (.value v) w₁ ∧ DK S w₁ w₁ (listed Tryz.prog bS.fn ⟨T, []⟩ o w₁))
    (hn : ∀ w₁, RK ty wg S w w₁ → Goes Tryz.prog false (RK ty wg S) (DK S) Stop n (G (bS.at ⟨T.setIfInBounds d v, []⟩ (.inRegion opsS rest :: kk)) cs) w₁) :
    Goes Tryz.prog false (RK ty wg S) (DK S) Stop (n + 1) (G (bS.at ⟨T, []⟩ (.inRegion opsS (i :: rest) :: kk)) cs) w := by
  obtain ⟨o, ho1, ho2⟩ := Option.map_eq_some_iff.1 ho
  simp only [Prod.mk.injEq] at ho2
  obtain ⟨e1, e2, e3⟩ := ho2
  refine Goes.step rfl fun w₁ h₁ => ?_
  have hw : Region.wanted o (yielded opsS (⟨T, []⟩ : Act).tmps) = true := by unfold Region.wanted; rw [e3]
  rw [stepG_value ho1 hw (by k_ne) (hr w₁ o e1 h₁).1]
  simp only [goes_go, Act.put, e2]
  exact ⟨(hr w₁ o e1 h₁).2, hn w₁ h₁⟩

theorem dr_move {o : Oper} {t : Nat} {v : Value} (h : o.op = .move (.tmp t)) (ht : T[t]? = some v) (w₁ : World) : (execOp (⟨T, []⟩ : Act).eval o).run Tryz.prog w₁ = .ok (.value v) w₁ ∧ DK S w₁ w₁ (listed Tryz.prog bS.fn ⟨T, []⟩ o w₁) := by
  have he : execOp (⟨T, []⟩ : Act).eval o = pure (.value v) := by unfold execOp; simp only [h, evalT ht]
  refine ⟨by rw [he]; rfl, dk_none fun e hm => ?_⟩
  have := mem_listed hm
  rw [he] at this
  simp [go_sem] at this
theorem dr_idxv {o : Oper} {t u C pl : Nat} (h : o.op = .indexAddr 36 (.tmp t) (.tmp u)) (ht : T[t]? = some (.pointer (some ⟨C, 0, none⟩))) (hu : T[u]? = some (.int .i64 pl)) (hp : pl < 24) (w₁ : World) :
    (execOp (⟨T, []⟩ : Act).eval o).run Tryz.prog w₁ = .ok (.value (.pointer (some ⟨C, pl, none⟩))) w₁ ∧ DK S w₁ w₁ (listed Tryz.prog bS.fn ⟨T, []⟩ o w₁) := by
  have he : execOp (⟨T, []⟩ : Act).eval o = (do pure (.value (← Instr.indexAt 36 (.pointer (some ⟨C, 0, none⟩)) (.int .i64 (pl : Int)))) : Sem Next) := by unfold execOp; simp only [h, evalT ht, evalT hu]
  refine ⟨by rw [he]; simp [go_sem, idx_v C pl hp, add0], dk_none fun e hm => ?_⟩
  have := mem_listed hm
  rw [he] at this
  simp [go_sem, idx_v C pl hp, idx_v_ev C pl hp] at this
theorem dr_idxp {o : Oper} {t u C pl : Nat} (h : o.op = .indexAddr 39 (.tmp t) (.tmp u)) (ht : T[t]? = some (.pointer (some ⟨C, 0, none⟩))) (hu : T[u]? = some (.int .i64 pl)) (hp : pl < 24) (w₁ : World) :
    (execOp (⟨T, []⟩ : Act).eval o).run Tryz.prog w₁ = .ok (.value (.pointer (some ⟨C, pl, none⟩))) w₁ ∧ DK S w₁ w₁ (listed Tryz.prog bS.fn ⟨T, []⟩ o w₁) := by
  have he : execOp (⟨T, []⟩ : Act).eval o = (do pure (.value (← Instr.indexAt 39 (.pointer (some ⟨C, 0, none⟩)) (.int .i64 (pl : Int)))) : Sem Next) := by unfold execOp; simp only [h, evalT ht, evalT hu]
  refine ⟨by rw [he]; simp [go_sem, idx_p C pl hp, add0], dk_none fun e hm => ?_⟩
  have := mem_listed hm
  rw [he] at this
  simp [go_sem, idx_p C pl hp, idx_p_ev C pl hp] at this
theorem dr_load {o : Oper} {t : Nat} {a : Addr} {z : Int} (h : o.op = .load 3 (.tmp t)) (ht : T[t]? = some (.pointer (some a))) {w₁ : World} (hc : w₁.cell? a = some (.int .i64 z)) (hS : S a.block) (hB : a.block < w₁.heap.size) :
    (execOp (⟨T, []⟩ : Act).eval o).run Tryz.prog w₁ = .ok (.value (.int .i64 z)) w₁ ∧ DK S w₁ w₁ (listed Tryz.prog bS.fn ⟨T, []⟩ o w₁) := by
  have he : execOp (⟨T, []⟩ : Act).eval o = (do pure (.value (← Instr.loadAt 3 (.pointer (some a)))) : Sem Next) := by unfold execOp; simp only [h, evalT ht]
  refine ⟨by rw [he]; simp [go_sem, hc], dk_read (a := a) (sy := false) hS hB fun e hm => ?_⟩
  have := mem_listed hm
  rw [he] at this
  simp [go_sem, hc] at this
  exact this
theorem dr_build {o : Oper} {x y : Int} (h : o.op = .build 75 #[(0, .tmp 19), (1, .tmp 22)]) (h1 : T[19]? = some (.int .i64 x)) (h2 : T[22]? = some (.int .i64 y)) (w₁ : World) :
    (execOp (⟨T, []⟩ : Act).eval o).run Tryz.prog w₁ = .ok (.value (.agg #[.int .i64 x, .int .i64 y])) w₁ ∧ DK S w₁ w₁ (listed Tryz.prog bS.fn ⟨T, []⟩ o w₁) := by
  have he : execOp (⟨T, []⟩ : Act).eval o = (do pure (.value (← Instr.build 75 #[(0, .int .i64 x), (1, .int .i64 y)])) : Sem Next) := by
    unfold execOp
    simp only [h, List.map_toArray, List.map_cons, List.map_nil, evalT h1, evalT h2]
  refine ⟨by rw [he]; simp [go_sem, bld], dk_none fun e hm => ?_⟩
  have := mem_listed hm
  rw [he] at this
  simp [go_sem, bld, bld_ev] at this

theorem Dr.put {d : Nat} {v : Value} {ls ls' : Array Bool} (h : Dr Cv Cp c row k pl x y ls T) (hd : 16 ≤ d) (hd2 : d < 26)
    (h0 : ls'.getD 0 false = true → (d = 16 ∧ v = .chan (some c)) ∨ (d ≠ 16 ∧ ls.getD 0 false = true)) (h1 : ls'.getD 1 false = true → (d = 17 ∧ v = .int .i64 pl) ∨ (d ≠ 17 ∧ ls.getD 1 false = true))
    (h2 : ls'.getD 2 false = true → (d = 18 ∧ v = .pointer (some ⟨Cv, pl, none⟩)) ∨ (d ≠ 18 ∧ ls.getD 2 false = true)) (h3 : ls'.getD 3 false = true → (d = 19 ∧ v = .int .i64 x) ∨ (d ≠ 19 ∧ ls.getD 3 false = true))
    (h4 : ls'.getD 4 false = true → (d = 20 ∧ v = .int .i64 pl) ∨ (d ≠ 20 ∧ ls.getD 4 false = true)) (h5 : ls'.getD 5 false = true → (d = 21 ∧ v = .pointer (some ⟨Cp, pl, none⟩)) ∨ (d ≠ 21 ∧ ls.getD 5 false = true))
    (h6 : ls'.getD 6 false = true → (d = 22 ∧ v = .int .i64 y) ∨ (d ≠ 22 ∧ ls.getD 6 false = true)) (h7 : ls'.getD 7 false = true → (d = 23 ∧ v = .agg #[.int .i64 x, .int .i64 y]) ∨ (d ≠ 23 ∧ ls.getD 7 false = true))
    (k2 : ls'.getD 2 false = true → ls'.getD 1 false = true) (k3 : ls'.getD 3 false = true → ls'.getD 2 false = true) (k5 : ls'.getD 5 false = true → ls'.getD 4 false = true) (k6 : ls'.getD 6 false = true → ls'.getD 5 false = true) (k7 : ls'.getD 7 false = true → ls'.getD 3 false = true ∧ ls'.getD 6 false = true) :
    Dr Cv Cp c row k pl x y ls' (T.setIfInBounds d v) := by
  have hs : d < T.size := by rw [h.size]; exact hd2
  have keep : ∀ {t : Nat} {u : Value}, t < 16 → T[t]? = some u → (T.setIfInBounds d v)[t]? = some u := fun ht hu => by rw [setT hs, if_neg (by omega)]; exact hu
  have one : ∀ {t : Nat} {u : Value} {P' : Prop}, (P' → T[t]? = some u) → ((d = t ∧ v = u) ∨ (d ≠ t ∧ P')) → (T.setIfInBounds d v)[t]? = some u := fun hp hh => by
    rw [setT hs]
    rcases hh with ⟨e1, e2⟩ | ⟨e1, e2⟩
    · rw [if_pos e1, e2]
    · rw [if_neg e1]; exact hp e2
  exact ⟨by rw [Array.size_setIfInBounds]; exact h.size, keep (by omega) h.t1, keep (by omega) h.t3, keep (by omega) h.t4, keep (by omega) h.t6, keep (by omega) h.t9, keep (by omega) h.t10,
    fun e => one h.d0 (h0 e), fun e => one h.d1 (h1 e), fun e => one h.d2 (h2 e), fun e => one h.d3 (h3 e), fun e => one h.d4 (h4 e), fun e => one h.d5 (h5 e), fun e => one h.d6 (h6 e), fun e => one h.d7 (h7 e), k2, k3, k5, k6, k7⟩

/-- At the send. -/
def AtSend (S : Nat → Prop) (ty : TypeId) (wg Cv Cp c : Nat) (Lv Lp : List Int) (row : Int) (k pl : Nat) (x y : Int) (kk : List Item) (cs : List Frame) (g : Goroutine) (w : World) : Prop :=
  ∃ T, Dr Cv Cp c row k pl x y #[true, true, true, true, true, true, true, true, false] T ∧ g = G (bS.at ⟨T, []⟩ (.inRegion opsS [8] :: kk)) cs ∧ KB S ty wg Cv Cp Lv Lp w

set_option maxHeartbeats 4000000 in
/-- ████ THE DRAWN REGION, IN WHATEVER ORDER. ████ -/
theorem drawn_run (m : Region.Mode) (hpl : pl < 24) (hLv : Lv.length = 24) (hLp : Lp.length = 24) (hx : Lv.getD pl 0 = x) (hy : Lp.getD pl 0 = y) :
    ∀ (n fuel t : Nat) (l0 l1 l2 l3 l4 l5 l6 l7 l8 : Bool) (T : Array Value) (w : World), (!l0).toNat + (!l1).toNat + (!l2).toNat + (!l3).toNat + (!l4).toNat + (!l5).toNat + (!l6).toNat + (!l7).toNat + (!l8).toNat = n → n ≤ fuel → l8 = false →
      Dr Cv Cp c row k pl x y #[l0, l1, l2, l3, l4, l5, l6, l7, l8] T → KB S ty wg Cv Cp Lv Lp w →
      Goes Tryz.prog false (RK ty wg S) (DK S) (AtSend S ty wg Cv Cp c Lv Lp row k pl x y kk cs) n (G (bS.at ⟨T, []⟩ (.inRegion opsS (Region.linearise.go m opsS fuel t #[l0, l1, l2, l3, l4, l5, l6, l7, l8] []) :: kk)) cs) w := by
  intro n
  induction n with
  | zero => intro fuel t l0 l1 l2 l3 l4 l5 l6 l7 l8 T w hc hf h8; subst h8; simp at hc
  | succ n ih =>
    intro fuel t l0 l1 l2 l3 l4 l5 l6 l7 l8 T w hc hf h8 hD hK
    obtain ⟨fuel, rfl⟩ : ∃ f, fuel = f + 1 := ⟨fuel - 1, by omega⟩
    have c2 := hD.c2; have c3 := hD.c3; have c5 := hD.c5; have c6 := hD.c6; have c7 := hD.c7
    simp only [Array.getD_eq_getD_getElem?, List.getElem?_toArray, List.getElem?_cons_succ, List.getElem?_cons_zero, Option.getD_some] at c2 c3 c5 c6 c7
    obtain ⟨i, t', hi, hgo⟩ := go_next m opsS fuel t #[l0, l1, l2, l3, l4, l5, l6, l7, l8] (rdy_ne m c2 c3 c5 c6 c7 h8)
    rw [hgo]
    clear hgo
    rcases rdy_S m i hi with ⟨rfl, e⟩ | ⟨rfl, e⟩ | ⟨rfl, e, f⟩ | ⟨rfl, e, f⟩ | ⟨rfl, e⟩ | ⟨rfl, e, f⟩ | ⟨rfl, e, f⟩ | ⟨rfl, e, f, f'⟩ | ⟨rfl, e, f, f'⟩
    · subst e
      refine dr_step (op := .move (.tmp 3)) (d := 16) (v := .chan (some c)) rfl (fun w₁ o ho h₁ => dr_move ho hD.t3 w₁) fun w₁ h₁ => ?_
      refine ih fuel t' true l1 l2 l3 l4 l5 l6 l7 l8 _ w₁ ?_ (by omega) h8 (hD.put (by omega) (by omega) ?_ ?_ ?_ ?_ ?_ ?_ ?_ ?_ ?_ ?_ ?_ ?_ ?_) (kb_rely hK h₁)
      · simp only [Bool.not_false, Bool.not_true, Bool.toNat_true, Bool.toNat_false] at hc ⊢; omega
      all_goals (first | exact fun _ => .inl ⟨rfl, rfl⟩ | exact fun h => .inr ⟨by decide, h⟩ | exact c2 | exact c3 | exact c5 | exact c6 | exact c7 | exact fun _ => rfl | exact fun _ => f | exact fun _ => ⟨f, f'⟩ | exact fun h => ⟨rfl, (c7 h).2⟩ | exact fun h => ⟨(c7 h).1, rfl⟩)
    · subst e
      refine dr_step (op := .move (.tmp 9)) (d := 17) (v := .int .i64 pl) rfl (fun w₁ o ho h₁ => dr_move ho hD.t9 w₁) fun w₁ h₁ => ?_
      refine ih fuel t' l0 true l2 l3 l4 l5 l6 l7 l8 _ w₁ ?_ (by omega) h8 (hD.put (by omega) (by omega) ?_ ?_ ?_ ?_ ?_ ?_ ?_ ?_ ?_ ?_ ?_ ?_ ?_) (kb_rely hK h₁)
      · simp only [Bool.not_false, Bool.not_true, Bool.toNat_true, Bool.toNat_false] at hc ⊢; omega
      all_goals (first | exact fun _ => .inl ⟨rfl, rfl⟩ | exact fun h => .inr ⟨by decide, h⟩ | exact c2 | exact c3 | exact c5 | exact c6 | exact c7 | exact fun _ => rfl | exact fun _ => f | exact fun _ => ⟨f, f'⟩ | exact fun h => ⟨rfl, (c7 h).2⟩ | exact fun h => ⟨(c7 h).1, rfl⟩)
    · subst e
      refine dr_step (op := .indexAddr 36 (.tmp 4) (.tmp 17)) (d := 18) (v := .pointer (some ⟨Cv, pl, none⟩)) rfl (fun w₁ o ho h₁ => dr_idxv ho hD.t4 (hD.d1 (by simp [f])) hpl w₁) fun w₁ h₁ => ?_
      refine ih fuel t' l0 l1 true l3 l4 l5 l6 l7 l8 _ w₁ ?_ (by omega) h8 (hD.put (by omega) (by omega) ?_ ?_ ?_ ?_ ?_ ?_ ?_ ?_ ?_ ?_ ?_ ?_ ?_) (kb_rely hK h₁)
      · simp only [Bool.not_false, Bool.not_true, Bool.toNat_true, Bool.toNat_false] at hc ⊢; omega
      all_goals (first | exact fun _ => .inl ⟨rfl, rfl⟩ | exact fun h => .inr ⟨by decide, h⟩ | exact c2 | exact c3 | exact c5 | exact c6 | exact c7 | exact fun _ => rfl | exact fun _ => f | exact fun _ => ⟨f, f'⟩ | exact fun h => ⟨rfl, (c7 h).2⟩ | exact fun h => ⟨(c7 h).1, rfl⟩)
    · subst e
      refine dr_step (op := .load 3 (.tmp 18)) (d := 19) (v := .int .i64 x) rfl (fun w₁ o ho h₁ => dr_load ho (hD.d2 (by simp [f])) (by rw [VL_at Lv (by omega) (kb_rely hK h₁).v, hx]) hK.sv (kb_rely hK h₁).ltv) fun w₁ h₁ => ?_
      refine ih fuel t' l0 l1 l2 true l4 l5 l6 l7 l8 _ w₁ ?_ (by omega) h8 (hD.put (by omega) (by omega) ?_ ?_ ?_ ?_ ?_ ?_ ?_ ?_ ?_ ?_ ?_ ?_ ?_) (kb_rely hK h₁)
      · simp only [Bool.not_false, Bool.not_true, Bool.toNat_true, Bool.toNat_false] at hc ⊢; omega
      all_goals (first | exact fun _ => .inl ⟨rfl, rfl⟩ | exact fun h => .inr ⟨by decide, h⟩ | exact c2 | exact c3 | exact c5 | exact c6 | exact c7 | exact fun _ => rfl | exact fun _ => f | exact fun _ => ⟨f, f'⟩ | exact fun h => ⟨rfl, (c7 h).2⟩ | exact fun h => ⟨(c7 h).1, rfl⟩)
    · subst e
      refine dr_step (op := .move (.tmp 9)) (d := 20) (v := .int .i64 pl) rfl (fun w₁ o ho h₁ => dr_move ho hD.t9 w₁) fun w₁ h₁ => ?_
      refine ih fuel t' l0 l1 l2 l3 true l5 l6 l7 l8 _ w₁ ?_ (by omega) h8 (hD.put (by omega) (by omega) ?_ ?_ ?_ ?_ ?_ ?_ ?_ ?_ ?_ ?_ ?_ ?_ ?_) (kb_rely hK h₁)
      · simp only [Bool.not_false, Bool.not_true, Bool.toNat_true, Bool.toNat_false] at hc ⊢; omega
      all_goals (first | exact fun _ => .inl ⟨rfl, rfl⟩ | exact fun h => .inr ⟨by decide, h⟩ | exact c2 | exact c3 | exact c5 | exact c6 | exact c7 | exact fun _ => rfl | exact fun _ => f | exact fun _ => ⟨f, f'⟩ | exact fun h => ⟨rfl, (c7 h).2⟩ | exact fun h => ⟨(c7 h).1, rfl⟩)
    · subst e
      refine dr_step (op := .indexAddr 39 (.tmp 6) (.tmp 20)) (d := 21) (v := .pointer (some ⟨Cp, pl, none⟩)) rfl (fun w₁ o ho h₁ => dr_idxp ho hD.t6 (hD.d4 (by simp [f])) hpl w₁) fun w₁ h₁ => ?_
      refine ih fuel t' l0 l1 l2 l3 l4 true l6 l7 l8 _ w₁ ?_ (by omega) h8 (hD.put (by omega) (by omega) ?_ ?_ ?_ ?_ ?_ ?_ ?_ ?_ ?_ ?_ ?_ ?_ ?_) (kb_rely hK h₁)
      · simp only [Bool.not_false, Bool.not_true, Bool.toNat_true, Bool.toNat_false] at hc ⊢; omega
      all_goals (first | exact fun _ => .inl ⟨rfl, rfl⟩ | exact fun h => .inr ⟨by decide, h⟩ | exact c2 | exact c3 | exact c5 | exact c6 | exact c7 | exact fun _ => rfl | exact fun _ => f | exact fun _ => ⟨f, f'⟩ | exact fun h => ⟨rfl, (c7 h).2⟩ | exact fun h => ⟨(c7 h).1, rfl⟩)
    · subst e
      refine dr_step (op := .load 3 (.tmp 21)) (d := 22) (v := .int .i64 y) rfl (fun w₁ o ho h₁ => dr_load ho (hD.d5 (by simp [f])) (by rw [VL_at Lp (by omega) (kb_rely hK h₁).p, hy]) hK.sp (kb_rely hK h₁).ltp) fun w₁ h₁ => ?_
      refine ih fuel t' l0 l1 l2 l3 l4 l5 true l7 l8 _ w₁ ?_ (by omega) h8 (hD.put (by omega) (by omega) ?_ ?_ ?_ ?_ ?_ ?_ ?_ ?_ ?_ ?_ ?_ ?_ ?_) (kb_rely hK h₁)
      · simp only [Bool.not_false, Bool.not_true, Bool.toNat_true, Bool.toNat_false] at hc ⊢; omega
      all_goals (first | exact fun _ => .inl ⟨rfl, rfl⟩ | exact fun h => .inr ⟨by decide, h⟩ | exact c2 | exact c3 | exact c5 | exact c6 | exact c7 | exact fun _ => rfl | exact fun _ => f | exact fun _ => ⟨f, f'⟩ | exact fun h => ⟨rfl, (c7 h).2⟩ | exact fun h => ⟨(c7 h).1, rfl⟩)
    · subst e
      refine dr_step (op := .build 75 #[(0, .tmp 19), (1, .tmp 22)]) (d := 23) (v := .agg #[.int .i64 x, .int .i64 y]) rfl (fun w₁ o ho h₁ => dr_build ho (hD.d3 (by simp [f])) (hD.d6 (by simp [f'])) w₁) fun w₁ h₁ => ?_
      refine ih fuel t' l0 l1 l2 l3 l4 l5 l6 true l8 _ w₁ ?_ (by omega) h8 (hD.put (by omega) (by omega) ?_ ?_ ?_ ?_ ?_ ?_ ?_ ?_ ?_ ?_ ?_ ?_ ?_) (kb_rely hK h₁)
      · simp only [Bool.not_false, Bool.not_true, Bool.toNat_true, Bool.toNat_false] at hc ⊢; omega
      all_goals (first | exact fun _ => .inl ⟨rfl, rfl⟩ | exact fun h => .inr ⟨by decide, h⟩ | exact c2 | exact c3 | exact c5 | exact c6 | exact c7 | exact fun _ => rfl | exact fun _ => f | exact fun _ => ⟨f, f'⟩ | exact fun h => ⟨rfl, (c7 h).2⟩ | exact fun h => ⟨(c7 h).1, rfl⟩)
    · -- THE SEND: all else has been done
      obtain ⟨f3, f6⟩ := c7 f'
      have f2 := c3 f3; have f1 := c2 f2; have f5 := c6 f6; have f4 := c5 f5
      subst e f f' f3 f6 f2 f1 f5 f4
      have hdone : rdy m opsS #[true, true, true, true, true, true, true, true, true] = [] := by
        apply List.eq_nil_iff_forall_not_mem.2
        intro j hj
        rcases rdy_S m j hj with ⟨_, h⟩ | ⟨_, h⟩ | ⟨_, h, _⟩ | ⟨_, h, _⟩ | ⟨_, h⟩ | ⟨_, h, _⟩ | ⟨_, h, _⟩ | ⟨_, h, _⟩ | ⟨_, h, _⟩ <;> cases h
      have hset : (#[true, true, true, true, true, true, true, true, false] : Array Bool).setIfInBounds 8 true = #[true, true, true, true, true, true, true, true, true] := rfl
      rw [hset, go_done m opsS fuel t' _ hdone]
      exact Goes.stop fun w₁ h₁ => ⟨T, hD, rfl, kb_rely hK h₁⟩
end
end Go.Proofs.YtiodikflmijhkaaGreatDoor
