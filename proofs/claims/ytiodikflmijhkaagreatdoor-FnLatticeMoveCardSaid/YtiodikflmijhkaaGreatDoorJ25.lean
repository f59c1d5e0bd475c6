/- Joined texts: G9. -/
import Derived.Test.YtiodikflmijhkaaGreatDoorJ24
import Derived.Test.YtiodikflmijhkaaGreatDoorJ22
import Derived.Conc.SmallLaws
set_option linter.unusedSectionVars false
set_option linter.unusedVariables false
namespace Go.Proofs.YtiodikflmijhkaaGreatDoor.Farm
open Go Go.Conc Go.ConcN Go.RowKit
open Go.ConcR (KK wgBlock WgAt stA smA rd wr mk Payload Aside2 DC0)

/-- What it knows: the world it began in, below; the blocks made ahead of the group's ('lo') and behind it ('X'); the shared ones. -/
structure KF (w0 : World) (lo X : List (Nat × Obj)) (grp : Nat → Prop) (w : World) : Prop where
  tape : w.tape = w0.tape
  os : w.os = w0.os
  output : w.output = w0.output
  low : ∀ b, b < w0.heap.size → w.heap[b]? = w0.heap[b]?
  lo : ∀ p ∈ lo, w.heap[p.1]? = some p.2
  objs : ∀ p ∈ X, w.heap[p.1]? = some p.2
  gl : ∀ b, grp b → b < w.heap.size

section
variable [Payload] {ty : TypeId} {wg : Nat} {w0 w w₁ : World} {lo X X' : List (Nat × Obj)} {grp mr : Nat → Prop} {st : MSt}

theorem kf_rm (hs : w0.heap.size ≤ wg) (hlo : ∀ p ∈ lo, p.1 < wg) (hX : ∀ p ∈ X, mr p.1) (h : KF w0 lo X grp w) (r : RM ty wg mr w w₁) : KF w0 lo X grp w₁ :=
  ⟨r.tape.trans h.tape, r.os.trans h.os, r.output.trans h.output, fun b hb => (r.low b (Nat.lt_of_lt_of_le hb hs)).trans (h.low b hb), fun p hp => (r.low _ (hlo p hp)).trans (h.lo p hp), fun p hp => (r.mine _ (hX p hp)).trans (h.objs p hp), fun b hb => Nat.lt_of_lt_of_le (h.gl b hb) r.size⟩
theorem kf_of (hl : st.tag ≠ .law) (hs : w0.heap.size ≤ st.wg) (hlo : ∀ p ∈ lo, p.1 < st.wg) (hX : ∀ p ∈ X, st.mr p.1) (h : KF w0 lo X grp w ∧ WgLive ty st.wg w) (r : ROf ty st w w₁) : KF w0 lo X grp w₁ ∧ WgLive ty st.wg w₁ :=
  ⟨kf_rm hs hlo hX h.1 (r.2 hl), (r.2 hl).live h.2⟩
theorem kf_at {d : Nat} (h : KF w0 lo X grp w) : KF w0 lo X grp (w.at d) := ⟨h.tape, h.os, h.output, h.low, h.lo, h.objs, h.gl⟩
theorem kf_law (hl : st.tag = .law) (h : KF w0 lo X grp w) (r : ROf ty st w w₁) : KF w0 lo X grp w₁ := by
  obtain ⟨d, rfl⟩ := r.1 hl
  exact kf_at h
theorem lt_of_some' {b : Nat} {o : Obj} (h : w.heap[b]? = some o) : b < w.heap.size := (Array.getElem?_eq_some_iff.1 h).1
theorem live_alloc' {o : Obj} (h : WgLive ty wg w) : WgLive ty wg (w.alloc o) := by
  obtain ⟨st, sm, h⟩ := h
  exact ⟨st, sm, (heap_alloc_ne _ _ (lt_of_some' h)).trans h⟩
theorem KF.alloc (h : KF w0 lo X grp w) (hs : w0.heap.size ≤ w.heap.size) (o : Obj) : KF w0 lo ((w.heap.size, o) :: X) grp (w.alloc o) :=
  ⟨h.tape, h.os, h.output, fun b hb => (heap_alloc_ne _ _ (by omega)).trans (h.low b hb), fun p hp => (heap_alloc_ne _ _ (lt_of_some' (h.lo p hp))).trans (h.lo p hp),
    fun p hp => (List.mem_cons.1 hp).elim (fun e => by subst e; exact heap_alloc_new _ _) fun hp => (heap_alloc_ne _ _ (lt_of_some' (h.objs p hp))).trans (h.objs p hp), fun b hb => by have := h.gl b hb; simp; omega⟩
theorem KF.allocG (h : KF w0 lo X grp w) (hs : w0.heap.size ≤ w.heap.size) (o : Obj) : KF w0 lo ((w.heap.size, o) :: X) (fun b => grp b ∨ b = w.heap.size) (w.alloc o) :=
  ⟨h.tape, h.os, h.output, (h.alloc hs o).low, (h.alloc hs o).lo, (h.alloc hs o).objs, fun b hb => hb.elim ((h.alloc hs o).gl b) fun e => by subst e; simp⟩
theorem KF.drop (h : KF w0 lo X grp w) (hX : ∀ p ∈ X', p ∈ X) : KF w0 lo X' grp w := ⟨h.tape, h.os, h.output, h.low, h.lo, fun p hp => h.objs p (hX p hp), h.gl⟩
/-- A block of one's own is turned. -/
theorem KF.turn (h : KF w0 lo X grp w) {lo' : List (Nat × Obj)} {g : Nat} {o : Obj} (hT : w₁.tape = w.tape ∧ w₁.os = w.os ∧ w₁.output = w.output ∧ w₁.heap.size = w.heap.size) (hb : ∀ b, b ≠ g → w₁.heap[b]? = w.heap[b]?) (hg : w₁.heap[g]? = some o) (h0 : w0.heap.size ≤ g)
    (hX : ∀ p ∈ X', p = (g, o) ∨ (p ∈ X ∧ p.1 ≠ g)) (hL : ∀ p ∈ lo', p = (g, o) ∨ (p ∈ lo ∧ p.1 ≠ g)) : KF w0 lo' X' grp w₁ :=
  ⟨hT.1.trans h.tape, hT.2.1.trans h.os, hT.2.2.1.trans h.output, fun b hlt => (hb b (by omega)).trans (h.low b hlt), fun p hp => (hL p hp).elim (fun e => by subst e; exact hg) fun x => (hb _ x.2).trans (h.lo p x.1),
    fun p hp => (hX p hp).elim (fun e => by subst e; exact hg) fun x => (hb _ x.2).trans (h.objs p x.1), fun b hb => by rw [hT.2.2.2]; exact h.gl b hb⟩
theorem turn_cell {g j : Nat} {cs : Array Value} {t : TypeId} {v : Value} (hg : w.heap[g]? = some (.cells cs t)) :
    ((w.setCell ⟨g, j, none⟩ v).tape = w.tape ∧ (w.setCell ⟨g, j, none⟩ v).os = w.os ∧ (w.setCell ⟨g, j, none⟩ v).output = w.output ∧ (w.setCell ⟨g, j, none⟩ v).heap.size = w.heap.size) ∧
    (∀ b, b ≠ g → (w.setCell ⟨g, j, none⟩ v).heap[b]? = w.heap[b]?) ∧ (w.setCell ⟨g, j, none⟩ v).heap[g]? = some (.cells (cs.setIfInBounds j v) t) := by
  have hA := aside_setCell w ⟨g, j, none⟩ v
  exact ⟨⟨hA.tape, hA.os, hA.output, hA.size⟩, fun b hb => hA.block b hb, heap_setCell_same w g j cs t v hg⟩
theorem turn_row {g : Nat} {cs : Array Value} {t : TypeId} {vs : Array Value} (hg : w.heap[g]? = some (.cells cs t)) :
    ((w.setRow g vs).tape = w.tape ∧ (w.setRow g vs).os = w.os ∧ (w.setRow g vs).output = w.output ∧ (w.setRow g vs).heap.size = w.heap.size) ∧
    (∀ b, b ≠ g → (w.setRow g vs).heap[b]? = w.heap[b]?) ∧ (w.setRow g vs).heap[g]? = some (.cells vs t) := by
  refine ⟨⟨rfl, rfl, rfl, by simp [World.setRow]⟩, fun b hb => setRow_other w g b vs hb, ?_⟩
  exact setRow_heap w g cs vs t _ hg
theorem live_turn {g : Nat} (hb : ∀ b, b ≠ g → w₁.heap[b]? = w.heap[b]?) (hg : wg ≠ g) (h : WgLive ty wg w) : WgLive ty wg w₁ := live_of (hb _ hg) h
end

section
variable [Payload] {P : Program} {ty : TypeId} {Post : MSt → Goroutine → World → Prop} {K : MSt → Goroutine → World → Prop} {wg bd gs : Nat} {grp may zone chs : Nat → Prop} {q : Nat → List Value}
  {b : Frame} {a : Act} {k : List Item} {cs : List Frame} {w : World} {ops : Array Oper} {i : Nat} {rest : List Nat} {o : Oper}

theorem mstop_alloc {t : TypeId} {z : Value} (ho : ops[i]? = some o) (hw : Region.wanted o (yielded ops a.tmps) = true) (hk : b.kind ≠ .early) (hop : o.op = .alloc t) (hz : ∀ w, (zeroValue t).run P w = .ok z w)
    (hn : K ⟨.opn false, 0, wg, bd, gs, grp, fun b => may b ∨ b = w.heap.size, zone, chs, q⟩ (G (b.at (a.put o.dst (.pointer (some ⟨w.heap.size, 0, none⟩))) (.inRegion ops rest :: k)) cs) (w.alloc (.cells z.cells t))) :
    MStop P ty Post K ⟨.opn false, 0, wg, bd, gs, grp, may, zone, chs, q⟩ (G (b.at a (.inRegion ops (i :: rest) :: k)) cs) w :=
  .new _ _ rfl rfl (stepG_alloc ho hw hk hop hz) hn

theorem stepG_chan {t e : TypeId} {dir : ChanDir} {inf : TypeInfo} {n : Nat} (ho : ops[i]? = some o) (hw : Region.wanted o (yielded ops a.tmps) = true) (hk : b.kind ≠ .early) (hop : o.op = .makeChan t (.const (.int .i64 n)))
    (ht : P.underlying t = some (.chan dir e)) (hi : P.info? e = some inf) (h63 : (n : Int) ≤ 9223372036854775807) (hb : (inf.bytes : Int) * n ≤ 281474976710544) :
    stepG P true (G (b.at a (.inRegion ops (i :: rest) :: k)) cs) w = .go (G (b.at (a.put o.dst (.chan (some w.heap.size))) (.inRegion ops rest :: k)) cs) (w.alloc (.chan n #[] false 0 0 false)) #[] := by
  have he : execOp a.eval o = (do pure (.value (← Instr.makeChan t (.int .i64 n))) : Sem Next) := by unfold execOp; simp only [hop]; rfl
  have hr := run_makeChan (P := P) (w := w) ht hi .i64 n h63 hb
  have hv := events_makeChan (P := P) (w := w) ht hi .i64 n h63 hb
  rw [stepG_value ho hw hk (v := .chan (some w.heap.size)) (w' := w.alloc (.chan n #[] false 0 0 false)) (by rw [he, Sem.run_bind, hr]; rfl), listed_nil (by rw [he, Sem.events_bind, hr]; simp only [hv]; rfl)]

theorem mstop_chan {t e : TypeId} {dir : ChanDir} {inf : TypeInfo} {n : Nat} (ho : ops[i]? = some o) (hw : Region.wanted o (yielded ops a.tmps) = true) (hk : b.kind ≠ .early) (hop : o.op = .makeChan t (.const (.int .i64 n)))
    (ht : P.underlying t = some (.chan dir e)) (hi : P.info? e = some inf) (h63 : (n : Int) ≤ 9223372036854775807) (hb : (inf.bytes : Int) * n ≤ 281474976710544)
    (hn : K ⟨.opn false, 0, wg, bd, gs, fun b => grp b ∨ b = w.heap.size, may, zone, chs, q⟩ (G (b.at (a.put o.dst (.chan (some w.heap.size))) (.inRegion ops rest :: k)) cs) (w.alloc (.chan n #[] false 0 0 false))) :
    MStop P ty Post K ⟨.opn false, 0, wg, bd, gs, grp, may, zone, chs, q⟩ (G (b.at a (.inRegion ops (i :: rest) :: k)) cs) w :=
  .newc _ _ rfl rfl (stepG_chan ho hw hk hop ht hi h63 hb) hn

/-- An operation whose run and entries are known: it looks at no memory. -/
theorem stepG_idx {t : TypeId} {x y : Operand} {g n : Nat} {v : Value} (ho : ops[i]? = some o) (hw : Region.wanted o (yielded ops a.tmps) = true) (hk : b.kind ≠ .early) (hop : o.op = .indexAddr t x y) (hx : a.eval x = .pointer (some ⟨g, 0, none⟩)) (hy : a.eval y = v)
    (hr : (Instr.indexAt t (.pointer (some ⟨g, 0, none⟩)) v).run P w = .ok (.pointer (some ⟨g, n, none⟩)) w) (hv : (Instr.indexAt t (.pointer (some ⟨g, 0, none⟩)) v).events P w #[] = #[]) {main : Bool} :
    stepG P main (G (b.at a (.inRegion ops (i :: rest) :: k)) cs) w = .go (G (b.at (a.put o.dst (.pointer (some ⟨g, n, none⟩))) (.inRegion ops rest :: k)) cs) w #[] := by
  have he : execOp a.eval o = (do pure (.value (← Instr.indexAt t (.pointer (some ⟨g, 0, none⟩)) v)) : Sem Next) := by unfold execOp; simp only [hop, hx, hy]
  rw [stepG_value ho hw hk (v := .pointer (some ⟨g, n, none⟩)) (w' := w) (by rw [he, Sem.run_bind, hr]; rfl), listed_nil (by rw [he, Sem.events_bind, hr]; simp only [hv]; rfl)]
end

end Go.Proofs.YtiodikflmijhkaaGreatDoor.Farm
