import Derived.Test.YtcfhfllcdliaoaaGreatDoorH1
import Derived.Test.YtcfhfllcdliaoaaGreatDoorM16
/- The parts of a word, from the greatest to the least. No program is named here. -/
namespace Go.Proofs.YtcfhfllcdliaoaaGreatDoor
set_option linter.unusedVariables false

theorem and_split (a b : Nat) : a &&& b = 2 * (a / 2 &&& b / 2) + (a % 2) * (b % 2) := by
  have h1 := Nat.div_add_mod (a &&& b) 2
  have h2 : (a &&& b) / 2 = a / 2 &&& b / 2 := Nat.and_div_two
  have h3 : (a &&& b) % 2 = (a % 2) * (b % 2) := by
    have e := Nat.testBit_and a b 0
    simp only [Nat.testBit_zero] at e
    have ha : a % 2 = 0 ∨ a % 2 = 1 := by omega
    have hb : b % 2 = 0 ∨ b % 2 = 1 := by omega
    have hc : (a &&& b) % 2 = 0 ∨ (a &&& b) % 2 = 1 := by omega
    rcases ha with ha | ha <;> rcases hb with hb | hb <;> rcases hc with hc | hc <;> simp [ha, hb, hc] at e ⊢
  rw [h2, h3] at h1
  exact h1.symm
theorem sub_half {a b : Nat} (h : a &&& b = a) : a / 2 &&& b / 2 = a / 2 ∧ (a % 2 ≤ b % 2) := by
  have h1 := and_split a b
  rw [h] at h1
  have ha : a % 2 = 0 ∨ a % 2 = 1 := by omega
  have hb : b % 2 = 0 ∨ b % 2 = 1 := by omega
  have hle : a / 2 &&& b / 2 ≤ a / 2 := Nat.and_le_left
  rcases ha with ha | ha <;> rcases hb with hb | hb <;> rw [ha, hb] at h1 <;> simp only [Nat.mul_zero, Nat.mul_one, Nat.add_zero] at h1 <;> constructor <;> omega
/-- The next lesser part is the greatest of those that are less. -/
theorem next_part : ∀ (p o q : Nat), p &&& o = p → q &&& o = q → q < p → q ≤ (p - 1) &&& o := by
  intro p
  induction p using Nat.strongRecOn with
  | _ p ih =>
    intro o q hp hq hlt
    obtain ⟨p1, p2⟩ := sub_half hp
    obtain ⟨q1, q2⟩ := sub_half hq
    have hs := and_split (p - 1) o
    by_cases hodd : p % 2 = 1
    · have e1 : (p - 1) / 2 = p / 2 := by omega
      have e2 : (p - 1) % 2 = 0 := by omega
      rw [e1, e2, p1] at hs
      omega
    · have e1 : (p - 1) / 2 = p / 2 - 1 := by omega
      have e2 : (p - 1) % 2 = 1 := by omega
      have := ih (p / 2) (by omega) (o / 2) (q / 2) p1 q1 (by omega)
      rw [e1, e2] at hs
      omega
theorem next_sub (p o : Nat) : ((p - 1) &&& o) &&& o = (p - 1) &&& o := by rw [Nat.and_assoc, Nat.and_self]
theorem next_lt (p o : Nat) (h : p ≠ 0) : (p - 1) &&& o < p := by
  have : (p - 1) &&& o ≤ p - 1 := Nat.and_le_left
  omega
end Go.Proofs.YtcfhfllcdliaoaaGreatDoor
/- The law of a range over an iterator whose body is told of its own loop's record: a range within a round wants it. No program is named here. -/
namespace Go.Proofs.YtcfhfllcdliaoaaGreatDoor
open Go.RowKit
set_option linter.unusedVariables false

/-- The law of a range over such an iterator, at the wide fence. -/
theorem wp_range_itR {α : Type} {P : Program} {n : Nat} {g : Operand} {ps : Array Tmp} {assign body : Code} {Q : Exit → Act → World → Prop} {a : Act} {w : World}
    {gf : Nat} {lb : Array Value} (hg : a.eval g = .func (.func gf) #[] lb) (eg : ∀ args w, (callFunc gf args).run P w = .ok (.enter gf args) w)
    {encs : α → Array Value} {K : Nat} {Kp : World → World → Prop} {S Sp : List α → Prop} {G : List α → α → Prop} {w0 : World} (hseq : SeqItG P gf lb encs K Kp S Sp G w0)
    (hKt : ∀ {A B C : World}, Kp A B → Kp B C → Kp A C) (hKb : ∀ (W : World) (l : Nat) (o : Obj), w.heap.size ≤ l → l < W.heap.size → Kp W (W.putObj l o))
    (hb0 : Below w0.heap.size w0 w) (hps : ∀ x, (encs x).size = ps.size)
    (I : List α → World → Prop) (Ix : Code → List α → World → Prop) (hI : OwnFrom w.heap.size I) (hIx : ∀ c, OwnFrom w.heap.size (Ix c)) (h0 : I [] w) (Ax : α → Act → World → Prop) (hAx : ∀ x a', OwnFrom w.heap.size (fun (_ : Unit) W => Ax x a' W)) (hKbl : ∀ (A B : World), w.heap.size ≤ A.heap.size → Below A.heap.size A B → Kp A B)
    (hassign : ∀ (l : Nat) (pre : List α) (x : α) (W : World) (K : Act → World → Prop), I pre W → (∀ a' W', Below W.heap.size W W' → Ax x a' W' → K a' W') →
      assign.wpIn (Fence.wide.inRound l) n P (Exit.then K (fun _ _ _ => False)) { tmps := (ps.zip (encs x)).foldl (fun t (p, v) => t.setIfInBounds p v) a.tmps, defers := [] } W)
    (hbody : ∀ (pre : List α) (x : α) (a' : Act) (W : World), I pre W → Ax x a' W → G pre x → w.heap.size + 2 + K ≤ W.heap.size → (∃ r, W.heap[w.heap.size + 1]? = some (.loop r)) → body.wpIn (Fence.wide.inRound (w.heap.size + 1)) n P (postIt w.heap.size (w.heap.size + 2 + K) Kp I Ix (pre ++ [x]) W) a' W)
    (hdone : ∀ (D : Nat) (xs : List α) (W : World), w.heap.size ≤ D → S xs → I xs W → W.heap[D]? = some (.deferred (some [])) → Q .normal { a with defers := { target := .collected D, args := #[] } :: a.defers } W)
    (hstop : ∀ (D : Nat) (c : Code) (pre : List α) (W : World), w.heap.size ≤ D → Sp pre → Ix c pre W → W.heap[D]? = some (.deferred (some [])) → c.wpIn Fence.wide n P Q { a with defers := { target := .collected D, args := #[] } :: a.defers } W) :
    (Code.rangeFunc g ps assign body).wpIn Fence.wide n P Q a w := by
  refine wpIn_rangeFunc fun fn _ => ?_
  obtain ⟨R, hR⟩ : ∃ R : LoopState → Option Code → Loop, R = fun st pe => { state := st, pending := pe, fn, tmps := a.tmps, params := ps, assign, body, defers := w.heap.size } := ⟨_, rfl⟩
  have hst := AtLoop.start w (R .ready none)
  have hsz : ((w.alloc (.deferred (some []))).alloc (.loop (R .ready none))).heap.size = w.heap.size + 2 := by simp
  have hI0 : I [] ((w.alloc (.deferred (some []))).alloc (.loop (R .ready none))) := hI.alloc _ (hI.alloc _ h0)
  have hb1 : Below w0.heap.size w0 ((w.alloc (.deferred (some []))).alloc (.loop (R .ready none))) := (hb0.alloc hb0.size _).alloc (by have := hb0.size; simp; omega) _
  have hent : (Instr.enterLoop fn a.tmps ps assign body Fence.wide.round).run P w = .ok (w.heap.size + 1, [{ target := .collected w.heap.size, args := #[] }]) ((w.alloc (.deferred (some []))).alloc (.loop (R .ready none))) := by
    rw [hR]; exact run_enterLoop_outer fn a.tmps ps assign body
  generalize (w.alloc (.deferred (some []))).alloc (.loop (R .ready none)) = V at *
  refine ⟨w.heap.size + 1, [{ target := .collected w.heap.size, args := #[] }], V, { target := .fn (.func gf) lb, args := #[.func (.yield (w.heap.size + 1)) #[] #[]] }, V, gf,
    #[.func (.yield (w.heap.size + 1)) #[] #[]] ++ lb, V, hent, ?_, fun _ _ => trivial, ?_, fun h => absurd h (by simp [Fence.wide]), ?_⟩
  · simp only [resolve, hg]
    simp [go_sem]
  · simp [invoke, go_sem, eg]
  refine callsIn_wide.2 ((hseq (w.heap.size + 1)
    (fun pre W => I pre W ∧ AtLoop w.heap.size (R .ready none) W)
    (fun pre W => ∃ c, Ix c pre W ∧ AtLoop w.heap.size (R .done (some c)) W)
    V hb1 (by omega) ((own_ge hI (by omega)).and (AtLoop.own _ _ _ (by omega)))
    (fun s A B row hs hg hr => by
      obtain ⟨c, hc, hl⟩ := hs
      exact ⟨c, own_ge (hIx c) (Nat.le_of_lt (by omega : w.heap.size < V.heap.size)) s A B row hc hg hr, AtLoop.own (β := Unit) _ _ _ (by omega) () A B row hl hg hr⟩)
    ?_ ⟨hI0, hst⟩).mono ?_)
  · rintro pre x W ⟨hi, hl⟩ hlen hsK
    have hy := run_yield (P := P) (args := encs x) hl.2 (by rw [hR]; exact hps x)
    rw [hR] at hy
    refine ⟨fn, _, assign, body, hy, round_any (m := n) (roundIn_of_wpIn trivial (hassign _ pre x W _ hi fun a' W' hbW hax => ?_))⟩
    have hWs : w.heap.size + 2 + K ≤ W.heap.size := by omega
    have hgW : W.grownBy W' none := ⟨hbW.os, hbW.tape, hbW.output, hbW.size, fun i hi _ => hbW.block i hi⟩
    have hi' := hI pre W W' none hi hgW (fun r e => by cases e)
    have hl' := hl.keeps (KeepsIn.of_below (lo := w.heap.size) (hi := w.heap.size + 2) hbW (by omega)) (Nat.le_refl _) (by omega)
    have hsW := hbW.size
    have hk0 : KeepsIn V.heap.size (V.heap.size + K) W W' := KeepsIn.of_below hbW (by omega)
    have hp0 := hKbl W W' (by omega) hbW
    refine ⟨_, run_beginRound hl'.2 (by rw [hR]), ?_⟩
    have hl2 := hl'.put { R .ready none with state := .busy }
    have hk2 : KeepsIn V.heap.size (V.heap.size + K) W (W'.putObj (w.heap.size + 1) (.loop { R .ready none with state := .busy })) := hk0.trans (KeepsIn.putObj W' _ _ (.inl (by omega)))
    have hp2 := hKt hp0 (hKb W' _ (.loop { R .ready none with state := .busy }) (Nat.le_succ _) hl'.lt)
    refine wpIn_mono (hbody pre x a' _ (hI.putObj _ hi' (by omega) hl'.2 rfl) ((hAx x a').putObj (s := ()) _ hax (by omega) hl'.2 rfl) hlen (by simp; omega) ⟨_, hl2.2⟩) ?_
    generalize W'.putObj (w.heap.size + 1) (.loop { R .ready none with state := .busy }) = W2 at *
    have fin : ∀ (jump : Option Code) (W3 : World), KeepsIn w.heap.size (w.heap.size + 2 + K) W2 W3 →
        AtLoop w.heap.size { R .ready none with state := .busy } W3 ∧ KeepsIn V.heap.size (V.heap.size + K) W (W3.putObj (w.heap.size + 1) (.loop (R (if jump.isNone then .ready else .done) jump))) ∧
        (Instr.endRound (w.heap.size + 1) jump).run P W3 = .ok (.bool jump.isNone) (W3.putObj (w.heap.size + 1) (.loop (R (if jump.isNone then .ready else .done) jump))) := fun jump W3 hk3 => by
      have hl3 := hl2.keeps hk3 (Nat.le_refl _) (by omega)
      have he := run_endRound (P := P) jump hl3.2
      rw [hR] at he hl3 ⊢
      exact ⟨hl3, (hk2.trans (hk3.mono (by omega) (by omega))).trans (KeepsIn.putObj W3 _ _ (.inl (by omega))), he⟩
    rintro e a3 W3 hp
    cases e with
    | normal =>
      obtain ⟨hk3, hkp3, hi3⟩ := hp
      obtain ⟨hl3, hk4, hr⟩ := fin none W3 hk3
      exact ⟨_, _, hr, hk4, .inl ⟨rfl, ⟨hI.putObj _ hi3 (by omega) hl3.2 rfl, hl3.put _⟩, hKt (hKt hp2 hkp3) (hKb _ _ _ (Nat.le_succ _) hl3.lt)⟩⟩
    | ret =>
      obtain ⟨hk3, hi3⟩ := hp
      obtain ⟨hl3, hk4, hr⟩ := fin (some .ret) W3 hk3
      exact ⟨_, _, hr, hk4, .inr ⟨rfl, .ret, (hIx _).putObj _ hi3 (by omega) hl3.2 rfl, hl3.put _⟩⟩
    | exit id =>
      obtain ⟨hk3, hi3⟩ := hp
      obtain ⟨hl3, hk4, hr⟩ := fin (some (.exit id)) W3 hk3
      exact ⟨_, _, hr, hk4, .inr ⟨rfl, .exit id, (hIx _).putObj _ hi3 (by omega) hl3.2 rfl, hl3.put _⟩⟩
    | goto t =>
      obtain ⟨hk3, hi3⟩ := hp
      obtain ⟨hl3, hk4, hr⟩ := fin (some (.goto t)) W3 hk3
      exact ⟨_, _, hr, hk4, .inr ⟨rfl, .goto t, (hIx _).putObj _ hi3 (by omega) hl3.2 rfl, hl3.put _⟩⟩
    | panic ch => exact hp.elim
    | outgrown => exact hp.elim
  · rintro e W2 ⟨⟨v, rfl⟩, (⟨xs, hS, hi, hl⟩ | ⟨pre, hSp, c, hi, hl⟩)⟩
    · have he := run_endLoop (P := P) hl.2 (by rw [hR]; simp)
      refine ⟨none, W2.putObj (w.heap.size + 1) (.loop { R .ready none with state := .exhausted }), by rw [he, hR], hdone _ xs _ (Nat.le_refl _) hS (hI.putObj _ hi (by omega) hl.2 rfl) (hl.put _).1⟩
    · have he := run_endLoop (P := P) hl.2 (by rw [hR]; simp)
      refine ⟨some c, W2.putObj (w.heap.size + 1) (.loop { R .done (some c) with state := .exhausted }), by rw [he, hR], hstop _ c pre _ (Nat.le_refl _) hSp ((hIx c).putObj _ hi (by omega) hl.2 rfl) (hl.put _).1⟩
end Go.Proofs.YtcfhfllcdliaoaaGreatDoor