/- Iterators that range over iterators: my own contract of an iterator, and the law of a range over one. No program is named here. -/
import Derived.RangeFuncBox
import Derived.RangeFuncNested
import Derived.RangeFuncBound
import Derived.RangeFuncCalls
import Derived.RangeFuncLeaves
import Derived.RangeFuncWrites
namespace Go.Proofs.YtcfhfllcdliaoaaGreatDoor
open Go.RowKit
set_option linter.unusedVariables false

/-- The blocks from lo to hi lie as they lay. -/
structure KeepsIn (lo hi : Nat) (W W' : World) : Prop where
  size : W.heap.size ≤ W'.heap.size
  at_ : ∀ g, lo ≤ g → g < hi → W'.heap[g]? = W.heap[g]?
theorem KeepsIn.refl (lo hi : Nat) (W : World) : KeepsIn lo hi W W := ⟨Nat.le_refl _, fun _ _ _ => rfl⟩
theorem KeepsIn.trans {lo hi : Nat} {A B C : World} (h : KeepsIn lo hi A B) (k : KeepsIn lo hi B C) : KeepsIn lo hi A C := ⟨Nat.le_trans h.size k.size, fun g a b => (k.at_ g a b).trans (h.at_ g a b)⟩
theorem KeepsIn.mono {lo hi lo' hi' : Nat} {A B : World} (h : KeepsIn lo hi A B) (h1 : lo ≤ lo') (h2 : hi' ≤ hi) : KeepsIn lo' hi' A B := ⟨h.size, fun g a b => h.at_ g (by omega) (by omega)⟩
theorem KeepsIn.grown {lo hi : Nat} {A B : World} {row : Option Nat} (hg : A.grownBy B row) (hs : hi ≤ A.heap.size) (hr : ∀ g, row = some g → g < lo ∨ hi ≤ g) : KeepsIn lo hi A B :=
  ⟨hg.size, fun g a b => hg.block g (by omega) fun e => by have := hr g e.symm; omega⟩
theorem KeepsIn.of_below {lo hi : Nat} {A B : World} (h : Below A.heap.size A B) (hs : hi ≤ A.heap.size) : KeepsIn lo hi A B := ⟨h.size, fun g a b => h.block g (by omega)⟩
theorem KeepsIn.putObj {lo hi : Nat} (W : World) (l : Nat) (o : Obj) (h : l < lo ∨ hi ≤ l) : KeepsIn lo hi W (W.putObj l o) := ⟨by simp, fun g a b => World.putObj_heap_other (by omega)⟩
theorem KeepsIn.setCell {lo hi : Nat} (W : World) (p : Addr) (v : Value) (h : p.block < lo ∨ hi ≤ p.block) : KeepsIn lo hi W (W.setCell p v) := ⟨by simp [World.setCell], fun g a b => Below.heap_setCell W p v g (by omega)⟩
theorem KeepsIn.alloc {lo hi : Nat} (W : World) (o : Obj) (h : hi ≤ W.heap.size) : KeepsIn lo hi W (W.alloc o) := ⟨by simp, fun g a b => Below.heap_alloc W o g (by omega)⟩

/-- An iterator, for every loop body whose invariant minds the turns of no block laid since the call (a loop's record among them). It lays K blocks of its own ahead of the first round, and none behind; each round leaves these, and says Kp. -/
def SeqItG {α : Type} (P : Program) (g : Nat) (lb : Array Value) (encs : α → Array Value) (K : Nat) (Kp : World → World → Prop) (S Sp : List α → Prop) (G : List α → α → Prop) (w : World) : Prop :=
  ∀ (l : Nat) (J Jx : List α → World → Prop) (W : World), Below w.heap.size w W → l < W.heap.size → OwnFrom W.heap.size J → OwnFrom W.heap.size Jx →
    (∀ pre x W1, J pre W1 → G pre x → W.heap.size + K ≤ W1.heap.size → YieldAt Fence.wide 0 P l (encs x) W1 fun e W' =>
      KeepsIn W.heap.size (W.heap.size + K) W1 W' ∧ ((e = .returned (.bool true) ∧ J (pre ++ [x]) W' ∧ Kp W1 W') ∨ (e = .returned (.bool false) ∧ Jx (pre ++ [x]) W'))) →
    J [] W →
    Calls P g (#[.func (.yield l) #[] #[]] ++ lb) W fun e W' => (∃ v, e = .returned v) ∧ ((∃ xs, S xs ∧ J xs W') ∨ (∃ pre, Sp pre ∧ Jx pre W'))

theorem SeqItG.later {α : Type} {P : Program} {g : Nat} {lb : Array Value} {encs : α → Array Value} {K : Nat} {Kp : World → World → Prop} {S Sp : List α → Prop} {G : List α → α → Prop} {w w' : World}
    (h : SeqItG P g lb encs K Kp S Sp G w) (hb : Below w.heap.size w w') : SeqItG P g lb encs K Kp S Sp G w' :=
  fun l J Jx W hW hl hJ hJx hY h0 => h l J Jx W (hb.trans (hW.mono hb.size)) hl hJ hJx hY h0
theorem SeqItG.mono {α : Type} {P : Program} {g : Nat} {lb : Array Value} {encs : α → Array Value} {K : Nat} {Kp : World → World → Prop} {S Sp : List α → Prop} {G G' : List α → α → Prop} {w : World}
    (h : SeqItG P g lb encs K Kp S Sp G w) (hG : ∀ pre x, G pre x → G' pre x) : SeqItG P g lb encs K Kp S Sp G' w :=
  fun l J Jx W hW hl hJ hJx hY h0 => h l J Jx W hW hl hJ hJx (fun pre x W1 a b c => hY pre x W1 a (hG pre x b) c) h0
/-- Of what came ahead the length alone is told. -/
abbrev SeqIt {α : Type} (P : Program) (g : Nat) (lb : Array Value) (encs : α → Array Value) (K : Nat) (Kp : World → World → Prop) (S Sp : List α → Prop) (N : Nat) (w : World) : Prop :=
  SeqItG P g lb encs K Kp S Sp (fun pre _ => pre.length < N) w
theorem SeqIt.later {α : Type} {P : Program} {g : Nat} {lb : Array Value} {encs : α → Array Value} {K : Nat} {Kp : World → World → Prop} {S Sp : List α → Prop} {N : Nat} {w w' : World}
    (h : SeqIt P g lb encs K Kp S Sp N w) (hb : Below w.heap.size w w') : SeqIt P g lb encs K Kp S Sp N w' := SeqItG.later h hb

theorem round_any {m m' : Nat} {P : Program} {l : Nat} {f : FuncId} {tmps : Array Value} {assign body : Code} {w : World} {R : Ending → World → Prop}
    (h : RoundIn Fence.wide m P l f tmps assign body w R) : RoundIn Fence.wide m' P l f tmps assign body w R := ⟨h.1, fun c cs _ => h.2 c cs (room_wide _)⟩
theorem yield_any {m : Nat} (m' : Nat) {P : Program} {l : Nat} {args : Array Value} {W : World} {R : Ending → World → Prop} (h : YieldAt Fence.wide m P l args W R) : YieldAt Fence.wide m' P l args W R := by
  obtain ⟨fn, tmps, assign, body, hy, hR⟩ := h
  exact ⟨fn, tmps, assign, body, hy, round_any hR⟩
/-- A round goes into another loop's round as it is. -/
theorem round_in {m : Nat} {P : Program} {l : Nat} {f : FuncId} {tmps : Array Value} {assign body : Code} {w : World} {R : Ending → World → Prop} (m' l' : Nat)
    (h : RoundIn Fence.wide m P l f tmps assign body w R) : RoundIn (Fence.wide.inRound l') m' P l f tmps assign body w R := round_any (m' := m') h

/-- The two blocks of a loop's book-keeping. -/
def AtLoop (b : Nat) (r : Loop) (W : World) : Prop := W.heap[b]? = some (.deferred (some [])) ∧ W.heap[b + 1]? = some (.loop r)
theorem AtLoop.keeps {b lo hi : Nat} {r : Loop} {W W' : World} (h : AtLoop b r W) (k : KeepsIn lo hi W W') (hl : lo ≤ b) (hh : b + 2 ≤ hi) : AtLoop b r W' :=
  ⟨(k.at_ _ hl (by omega)).trans h.1, (k.at_ _ (by omega) (by omega)).trans h.2⟩
theorem AtLoop.put {b : Nat} {r : Loop} {W : World} (h : AtLoop b r W) (r' : Loop) : AtLoop b r' (W.putObj (b + 1) (.loop r')) :=
  ⟨(World.putObj_heap_other (by omega)).trans h.1, World.putObj_heap_same (Array.getElem?_eq_some_iff.1 h.2).1⟩
theorem AtLoop.lt {b : Nat} {r : Loop} {W : World} (h : AtLoop b r W) : b + 1 < W.heap.size := (Array.getElem?_eq_some_iff.1 h.2).1
theorem AtLoop.own {β : Type} (b B : Nat) (r : Loop) (hB : b + 2 ≤ B) : OwnFrom B (fun (_ : β) W => AtLoop b r W) := by
  intro s A C row hs hg hr
  have h1 : A.heap.size > b + 1 := hs.lt
  exact ⟨(hg.block b (by omega) fun e => by have := (hr b e.symm).1; omega).trans hs.1, (hg.block (b + 1) h1 fun e => by have := (hr _ e.symm).1; omega).trans hs.2⟩
theorem AtLoop.start (w : World) (r : Loop) : AtLoop w.heap.size r ((w.alloc (.deferred (some []))).alloc (.loop r)) := by
  have h2 := World.alloc_heap_new (w.alloc (.deferred (some []))) (.loop r)
  rw [World.size_alloc] at h2
  exact ⟨(Below.heap_alloc _ _ _ (by simp)).trans (World.alloc_heap_new w _), h2⟩
theorem own_ge {β : Type} {B B' : Nat} {I : β → World → Prop} (h : OwnFrom B I) (hB : B ≤ B') : OwnFrom B' I :=
  fun s A C row hs hg hr => h s A C row hs hg fun r e => ⟨Nat.le_trans hB (hr r e).1, (hr r e).2⟩
/-- How the body of a round may be left. -/
def postIt {α : Type} (lo hi : Nat) (Kp : World → World → Prop) (I : List α → World → Prop) (Ix : Code → List α → World → Prop) (xs : List α) (W : World) : Exit → Act → World → Prop
  | .normal, _, W' => KeepsIn lo hi W W' ∧ Kp W W' ∧ I xs W'
  | .ret, _, W' => KeepsIn lo hi W W' ∧ Ix .ret xs W'
  | .exit id, _, W' => KeepsIn lo hi W W' ∧ Ix (.exit id) xs W'
  | .goto t, _, W' => KeepsIn lo hi W W' ∧ Ix (.goto t) xs W'
  | .panic _, _, _ => False
  | .outgrown, _, _ => False

/-- The law of a range over such an iterator, at the wide fence. -/
theorem wp_range_it {α : Type} {P : Program} {n : Nat} {g : Operand} {ps : Array Tmp} {assign body : Code} {Q : Exit → Act → World → Prop} {a : Act} {w : World}
    {gf : Nat} {lb : Array Value} (hg : a.eval g = .func (.func gf) #[] lb) (eg : ∀ args w, (callFunc gf args).run P w = .ok (.enter gf args) w)
    {encs : α → Array Value} {K : Nat} {Kp : World → World → Prop} {S Sp : List α → Prop} {G : List α → α → Prop} {w0 : World} (hseq : SeqItG P gf lb encs K Kp S Sp G w0)
    (hKt : ∀ {A B C : World}, Kp A B → Kp B C → Kp A C) (hKb : ∀ (W : World) (l : Nat) (o : Obj), w.heap.size ≤ l → l < W.heap.size → Kp W (W.putObj l o))
    (hb0 : Below w0.heap.size w0 w) (hps : ∀ x, (encs x).size = ps.size)
    (I : List α → World → Prop) (Ix : Code → List α → World → Prop) (hI : OwnFrom w.heap.size I) (hIx : ∀ c, OwnFrom w.heap.size (Ix c)) (h0 : I [] w) (a₁ : α → Act)
    (hassign : ∀ (l : Nat) (x : α) (W : World) (K : Act → World → Prop), K (a₁ x) W →
      assign.wpIn (Fence.wide.inRound l) n P (Exit.then K (fun _ _ _ => False)) { tmps := (ps.zip (encs x)).foldl (fun t (p, v) => t.setIfInBounds p v) a.tmps, defers := [] } W)
    (hbody : ∀ (l : Nat) (pre : List α) (x : α) (W : World), I pre W → G pre x → w.heap.size + 2 + K ≤ W.heap.size → body.wpIn (Fence.wide.inRound l) n P (postIt w.heap.size (w.heap.size + 2 + K) Kp I Ix (pre ++ [x]) W) (a₁ x) W)
    (hdone : ∀ (D : Nat) (xs : List α) (W : World), w.heap.size ≤ D → S xs → I xs W → W.heap[D]? = some (.deferred (some [])) → Q .normal { a with defers := { target := .collected D, args := #[] } :: a.defers } W)
    (hstop : ∀ (D : Nat) (c : Code) (pre : List α) (W : World), w.heap.size ≤ D → Sp pre → Ix c pre W → W.heap[D]? = some (.deferred (some [])) → c.wpIn Fence.wide n P Q { a with defers := { target := .collected D, args := #[] } :: a.defers } W) :
    (Code.rangeFunc g ps assign body).wpIn Fence.wide n P Q a w := by
  refine wpIn_rangeFunc fun fn _ => ?_
  obtain ⟨R, hR⟩ : ∃ R : LoopState → Option Code → Loop, R = fun st pe => { state := st, pending := pe, fn, tmps := a.tmps, params := ps, assign, body, defers := w.heap.size } := ⟨_, rfl⟩
  have hst := AtLoop.start w (R .ready none)
  have hsz : ((w.alloc (.deferred (some []))).alloc (.loop (R .ready none))).heap.size = w.heap.size + 2 := by simp
  have hI0 : I [] ((w.alloc (.deferred (some []))).alloc (.loop (R .ready none))) := hI.alloc _ (hI.alloc _ h0)
  have hb1 : Below w0.heap.size w0 ((w.alloc (.deferred (some []))).alloc (.loop (R .ready none))) := (hb0.alloc hb0.size _).alloc (by have := hb0.size; simp; omega) _
  have hent : (Instr.enterLoop fn a.tmps ps assign body Fence.wide.round).run P w = .ok (w.heap.size + 1, [{ target := .collected w.heap.size, args := #[] }]) ((w.alloc (.deferred (some []))).alloc (.loop (R .ready none))) := by
    rw [hR]; exact run_enterLoop_outer fn a.tmps ps assign body
  generalize (w.alloc (.deferred (some []))).alloc (.loop (R .ready none)) = V at *
  refine ⟨w.heap.size + 1, [{ target := .collected w.heap.size, args := #[] }], V, { target := .fn (.func gf) lb, args := #[.func (.yield (w.heap.size + 1)) #[] #[]] }, V, gf,
    #[.func (.yield (w.heap.size + 1)) #[] #[]] ++ lb, V, hent, ?_, fun _ _ => trivial, ?_, fun h => absurd h (by simp [Fence.wide]), ?_⟩
  · simp only [resolve, hg]
    simp [go_sem]
  · simp [invoke, go_sem, eg]
  refine callsIn_wide.2 ((hseq (w.heap.size + 1)
    (fun pre W => I pre W ∧ AtLoop w.heap.size (R .ready none) W)
    (fun pre W => ∃ c, Ix c pre W ∧ AtLoop w.heap.size (R .done (some c)) W)
    V hb1 (by omega) ((own_ge hI (by omega)).and (AtLoop.own _ _ _ (by omega)))
    (fun s A B row hs hg hr => by
      obtain ⟨c, hc, hl⟩ := hs
      exact ⟨c, own_ge (hIx c) (Nat.le_of_lt (by omega : w.heap.size < V.heap.size)) s A B row hc hg hr, AtLoop.own (β := Unit) _ _ _ (by omega) () A B row hl hg hr⟩)
    ?_ ⟨hI0, hst⟩).mono ?_)
  · rintro pre x W ⟨hi, hl⟩ hlen hsK
    have hy := run_yield (P := P) (args := encs x) hl.2 (by rw [hR]; exact hps x)
    rw [hR] at hy
    refine ⟨fn, _, assign, body, hy, round_any (m := n) (roundIn_of_wpIn trivial (hassign _ x W _ ⟨_, run_beginRound hl.2 (by rw [hR]), ?_⟩))⟩
    have hl2 := hl.put { R .ready none with state := .busy }
    have hk2 : KeepsIn V.heap.size (V.heap.size + K) W (W.putObj (w.heap.size + 1) (.loop { R .ready none with state := .busy })) := KeepsIn.putObj W _ _ (.inl (by omega))
    have hp2 := hKb W _ (.loop { R .ready none with state := .busy }) (Nat.le_succ _) hl.lt
    refine wpIn_mono (hbody _ pre x _ (hI.putObj _ hi (by omega) hl.2 rfl) hlen (by simp; omega)) ?_
    generalize W.putObj (w.heap.size + 1) (.loop { R .ready none with state := .busy }) = W2 at *
    have fin : ∀ (jump : Option Code) (W3 : World), KeepsIn w.heap.size (w.heap.size + 2 + K) W2 W3 →
        AtLoop w.heap.size { R .ready none with state := .busy } W3 ∧ KeepsIn V.heap.size (V.heap.size + K) W (W3.putObj (w.heap.size + 1) (.loop (R (if jump.isNone then .ready else .done) jump))) ∧
        (Instr.endRound (w.heap.size + 1) jump).run P W3 = .ok (.bool jump.isNone) (W3.putObj (w.heap.size + 1) (.loop (R (if jump.isNone then .ready else .done) jump))) := fun jump W3 hk3 => by
      have hl3 := hl2.keeps hk3 (Nat.le_refl _) (by omega)
      have he := run_endRound (P := P) jump hl3.2
      rw [hR] at he hl3 ⊢
      exact ⟨hl3, (hk2.trans (hk3.mono (by omega) (by omega))).trans (KeepsIn.putObj W3 _ _ (.inl (by omega))), he⟩
    rintro e a3 W3 hp
    cases e with
    | normal =>
      obtain ⟨hk3, hkp3, hi3⟩ := hp
      obtain ⟨hl3, hk4, hr⟩ := fin none W3 hk3
      exact ⟨_, _, hr, hk4, .inl ⟨rfl, ⟨hI.putObj _ hi3 (by omega) hl3.2 rfl, hl3.put _⟩, hKt (hKt hp2 hkp3) (hKb _ _ _ (Nat.le_succ _) hl3.lt)⟩⟩
    | ret =>
      obtain ⟨hk3, hi3⟩ := hp
      obtain ⟨hl3, hk4, hr⟩ := fin (some .ret) W3 hk3
      exact ⟨_, _, hr, hk4, .inr ⟨rfl, .ret, (hIx _).putObj _ hi3 (by omega) hl3.2 rfl, hl3.put _⟩⟩
    | exit id =>
      obtain ⟨hk3, hi3⟩ := hp
      obtain ⟨hl3, hk4, hr⟩ := fin (some (.exit id)) W3 hk3
      exact ⟨_, _, hr, hk4, .inr ⟨rfl, .exit id, (hIx _).putObj _ hi3 (by omega) hl3.2 rfl, hl3.put _⟩⟩
    | goto t =>
      obtain ⟨hk3, hi3⟩ := hp
      obtain ⟨hl3, hk4, hr⟩ := fin (some (.goto t)) W3 hk3
      exact ⟨_, _, hr, hk4, .inr ⟨rfl, .goto t, (hIx _).putObj _ hi3 (by omega) hl3.2 rfl, hl3.put _⟩⟩
    | panic ch => exact hp.elim
    | outgrown => exact hp.elim
  · rintro e W2 ⟨⟨v, rfl⟩, (⟨xs, hS, hi, hl⟩ | ⟨pre, hSp, c, hi, hl⟩)⟩
    · have he := run_endLoop (P := P) hl.2 (by rw [hR]; simp)
      refine ⟨none, W2.putObj (w.heap.size + 1) (.loop { R .ready none with state := .exhausted }), by rw [he, hR], hdone _ xs _ (Nat.le_refl _) hS (hI.putObj _ hi (by omega) hl.2 rfl) (hl.put _).1⟩
    · have he := run_endLoop (P := P) hl.2 (by rw [hR]; simp)
      refine ⟨some c, W2.putObj (w.heap.size + 1) (.loop { R .done (some c) with state := .exhausted }), by rw [he, hR], hstop _ c pre _ (Nat.le_refl _) hSp ((hIx c).putObj _ hi (by omega) hl.2 rfl) (hl.put _).1⟩
end Go.Proofs.YtcfhfllcdliaoaaGreatDoor
