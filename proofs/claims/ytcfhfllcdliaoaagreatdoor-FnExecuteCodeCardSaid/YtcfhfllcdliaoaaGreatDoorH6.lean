import Derived.Test.YtcfhfllcdliaoaaGreatDoorC30
import Derived.Test.YtcfhfllcdliaoaaGreatDoorQ6
import Derived.Test.YtcfhfllcdliaoaaGreatDoorQ2
import Derived.Test.YtcfhfllcdliaoaaGreatDoorQ3
import Derived.Test.YtcfhfllcdliaoaaGreatDoorQ4
import Derived.Test.YtcfhfllcdliaoaaGreatDoorShelf
import Derived.Sort.OwnSortedInts
/- Counting weights: the model, the program, and the drawing. -/
namespace Go.Proofs.YtcfhfllcdliaoaaGreatDoor
open Go.RowKit Go.Shelf
attribute [local go_sem] Oper.semAt_some
set_option linter.unusedVariables false

theorem wgtB_iff (a b : Int) : wgtB a b = true ↔ 0 ≤ a ∧ a ≤ b ∧ b ≤ 4095 := by simp [wgtB]
theorem wt_code (m : Nat) (h : m < 4096) : wt (codeOf (m : Int)) = ((pop (cN m) : Nat) : Int) := by rw [codeOf_cN m h, wt_pop]
def z25 : Array Value := #[.int .i64 0, .int .i64 0, .int .i64 0, .int .i64 0, .int .i64 0, .int .i64 0, .int .i64 0, .int .i64 0, .int .i64 0, .int .i64 0, .int .i64 0, .int .i64 0, .int .i64 0, .int .i64 0, .int .i64 0, .int .i64 0, .int .i64 0, .int .i64 0, .int .i64 0, .int .i64 0, .int .i64 0, .int .i64 0, .int .i64 0, .int .i64 0, .int .i64 0]
theorem mk25 (W : World) : (Instr.makeSlice 61 (.int .i64 25) (.int .i64 25)).run Tryz.prog W = .ok (.slice (some ⟨W.heap.size, 0, none⟩) 25 25) (W.alloc (.cells z25 3)) := by kernel_rfl
theorem z25_vals : z25 = (vals .i64 (cntF [])).toArray := rfl
theorem own_arr {w : World} {B g : Nat} (xs : List Int) (hl : xs.length = 25) (hg : w.heap[g]? = some (.cells (vals .i64 xs).toArray 3 (0, 0))) (hB : B ≤ g) : Own w B (.slice (some ⟨g, 0, none⟩) 25 25) xs :=
  ⟨by simp [vals_len, hl], .inr ⟨g, 25, _, by rw [hl], hB, hg, by simp [hl], by unfold maxLen; omega, by simp [vals_len, hl], by
    have : (vals .i64 xs).length ≤ xs.length * 1 := by rw [vals_len]; omega
    simp [List.take_of_length_le, vals_len]⟩⟩
theorem arr_at {w : World} {g j : Nat} {t : TypeId} (xs : List Int) (hj : j < xs.length) (hg : w.heap[g]? = some (.cells (vals .i64 xs).toArray t (0, 0))) : w.cell? ⟨g, j, none⟩ = some (.int .i64 (xs.getD j 0)) := by
  rw [Lib.cell_of_heap hg]
  have := vals_get .i64 xs j hj
  simpa using this
theorem arr_set {w : World} {g j : Nat} {t : TypeId} (xs : List Int) (x : Int) (hg : w.heap[g]? = some (.cells (vals .i64 xs).toArray t (0, 0))) : (w.setCell ⟨g, j, none⟩ (.int .i64 x)).heap[g]? = some (.cells (vals .i64 (xs.set j x)).toArray t (0, 0)) := by
  have := heap_setCell_same w g j (vals .i64 xs).toArray t (.int .i64 x) hg
  rw [List.setIfInBounds_toArray, vals_set] at this
  exact this
end Go.Proofs.YtcfhfllcdliaoaaGreatDoor
/- Counting weights, of the program: a range over the words of the code. -/
namespace Go.Proofs.YtcfhfllcdliaoaaGreatDoor
open Go.RowKit Go.Shelf
attribute [local go_sem] Oper.semAt_some
set_option linter.unusedVariables false

def mv (pre : List (Fin 4096)) : List Nat := pre.map fun x => x.val
theorem mv_snoc (pre : List (Fin 4096)) (x : Fin 4096) : mv (pre ++ [x]) = mv pre ++ [x.val] := by simp [mv]
theorem mv_len (pre : List (Fin 4096)) : (mv pre).length = pre.length := by simp [mv]
end Go.Proofs.YtcfhfllcdliaoaaGreatDoor
/- The nearest words, of the program: a range over what is made of the words of the code. -/
namespace Go.Proofs.YtcfhfllcdliaoaaGreatDoor
open Go.RowKit Go.Shelf
attribute [local go_sem] Oper.semAt_some
set_option linter.unusedVariables false

/-- An append of one number, as the region meets it. -/
theorem push_run (V : World) (B : Nat) (v : Value) (xs : List Int) (x : Int) (c : Nat) (ty : TypeId) (hown : Own V B v xs) (hlen : xs.length ≤ 1048576) (hB : B ≤ V.heap.size) :
    ∃ v' V', (Builtin.append_ #[61, 61] ty #[v, .slice (some ⟨V.heap.size, 0, none⟩) 1 c]).run Tryz.prog (World.drew (V.alloc (.cells #[.int .i64 x] 3))) = .ok v' V' ∧ Own V' B v' (xs ++ [x]) ∧ V.grownBy V' v.ownBlock := by
  obtain ⟨i0, hi, hz0, hz1, hz2⟩ := info_parts intRow
  obtain ⟨v', V', h1, h2, h3, _⟩ := run_append_own (P := Tryz.prog) (World.drew (V.alloc (.cells #[.int .i64 x] 3))) B 61 ty 3 i0 (.int .i64 0) 1 8 Tryz.underlying61 hi hz0 hz1 hz2 rfl (by decide) v xs.length (vals .i64 xs) (World.ownsRow.alloc hown _) ⟨V.heap.size, 0, none⟩ 1 c [.int .i64 x] rfl
    (by
      intro j u hj
      match j, hj with
      | 0, hj => simp at hj; subst hj; exact cell_new V #[.int .i64 x] _ 0 _ rfl)
    (by intro u hu; simp at hu; subst hu; rfl) (by unfold maxLen; omega) (by omega) (by show B ≤ (V.alloc _).heap.size; simp; omega)
  have h3' : (V.alloc (.cells #[.int .i64 x] 3)).grownBy V' v.ownBlock := ⟨h3.os, h3.tape, h3.output, h3.size, h3.block⟩
  refine ⟨v', V', h1, ?_, grown_trans (World.grownBy_alloc V _ _) h3'⟩
  unfold Own
  rw [vals_append, show vals .i64 [x] = [Value.int .i64 x] from rfl, List.length_append]
  simpa using h2
theorem ms_sorted (L : List Int) : (L.mergeSort fun x y => decide (x ≤ y)).Pairwise (· ≤ ·) := by
  have := List.pairwise_mergeSort (le := fun (x y : Int) => decide (x ≤ y)) (by intro a b c; simp; omega) (by intro a b; simp; omega) L
  exact this.imp (by intro a b h; simpa using h)
theorem own_form {A : World} {B : Nat} {v : Value} {xs : List Int} {x : Int} (h : Own A B v (xs ++ [x])) : ∃ g cap, v = .slice (some ⟨g, 0, none⟩) (xs.length + 1) cap := by
  have e : (xs ++ [x]).length = xs.length + 1 := by simp
  unfold Own at h
  rw [e] at h
  exact ownsRow_succ h
/-- An append to a list of numbers, kept whole: the walk's set would part it. -/
def myApp (ats : Array TypeId) (ty : TypeId) (args : Array Value) : Sem Value := Builtin.append_ ats ty args
theorem myApp_is (ats : Array TypeId) (ty : TypeId) (args : Array Value) : Builtin.append_ ats ty args = myApp ats ty args := rfl
attribute [local go_sem ↓] myApp_is
/-- What the rounds of near keep: the list and the distance so far. -/
def NearInv (R n : Nat) (w : World) (pre : List (Fin 4096)) (V : World) : Prop :=
  (∃ v, V.heap[n + 1]? = some (.cells #[v] 61 (0, 0)) ∧ Own V (n + 17) v (nearF R (mv pre)).1) ∧
  (V.heap[n + 2]? = some (.cells #[.int .i64 (nearF R (mv pre)).2] 3 (0, 0)) ∧ V.heap[n]? = some (.cells #[.int .u32 R] 55 (0, 0))) ∧ Below n w V
theorem own_turn {A C : World} {B B' : Nat} {row : Option Nat} {v : Value} {xs : List Int} (h : Own A B v xs) (hg : A.grownBy C row) (hr : ∀ r, row = some r → B' ≤ r ∧ ∃ o : Obj, A.heap[r]? = some o ∧ o.isCells = false) : Own C B v xs := by
  refine ⟨h.1, ?_⟩
  rcases h.2 with h1 | ⟨b, cap, cur, h1, h2, h3, h4⟩
  · exact .inl h1
  · refine .inr ⟨b, cap, cur, h1, h2, (hg.block b (Array.getElem?_eq_some_iff.1 h3).1 fun e => ?_).trans h3, h4⟩
    obtain ⟨_, o, ho, hc⟩ := hr b e.symm
    rw [h3] at ho
    cases ho
    cases hc
theorem NearInv.own {R n B : Nat} {w : World} (hn : w.heap.size = n) (hB : n + 3 ≤ B) : OwnFrom B (NearInv R n w) := by
  subst hn
  refine OwnFrom.and ?_ (((ownFrom_at (fun pre => .cells #[.int .i64 (nearF R (mv pre)).2] 3 (0, 0)) (by omega)).and (ownFrom_at (fun _ => .cells #[.int .u32 R] 55 (0, 0)) (by omega))).and (ownFrom_below (Nat.le_refl _) (by omega)))
  rintro pre A C row ⟨v, h1, h2⟩ hg hr
  exact ⟨v, (hg.block _ (Array.getElem?_eq_some_iff.1 h1).1 fun e => by have := (hr _ e.symm).1; omega).trans h1, own_turn h2 hg hr⟩
theorem own_low {A C : World} {B g : Nat} {v : Value} {xs : List Int} (h : Own A B v xs) (hg : A.grownBy C (some g)) (hB : g < B) : Own C B v xs := by
  refine ⟨h.1, ?_⟩
  rcases h.2 with h1 | ⟨b, cap, cur, h1, h2, h3, h4⟩
  · exact .inl h1
  · exact .inr ⟨b, cap, cur, h1, h2, (hg.block b (Array.getElem?_eq_some_iff.1 h3).1 (by simp; omega)).trans h3, h4⟩
/-- What a round has of the world: the three boxes, the list. -/
structure NearAt (R n : Nat) (V V1 : World) (v1 : Value) (L1 : List Int) (d : Int) : Prop where
  q0 : Boxed V1 n 55 (.int .u32 R)
  q1 : Boxed V1 (n + 1) 61 v1
  q2 : Boxed V1 (n + 2) 3 (.int .i64 d)
  own : Own V1 (n + 17) v1 L1
  below : Below n V V1
  keeps : KeepsIn (n + 3) (n + 17) V V1
  size : n + 17 ≤ V1.heap.size
theorem NearAt.start {R n : Nat} {w V : World} {v : Value} {L : List Int} {m : Int} (q0 : Boxed V n 55 (.int .u32 R)) (q1 : Boxed V (n + 1) 61 v) (q2 : Boxed V (n + 2) 3 (.int .i64 m)) (ho : Own V (n + 17) v L) (hs : n + 17 ≤ V.heap.size) (k : Nat) : NearAt R n V (V.drewN k) v L m :=
  ⟨q0, q1, q2, ho, below_drewN (Below.refl _ _) k, ⟨Nat.le_refl _, fun _ _ _ => rfl⟩, hs⟩
theorem NearAt.reset {R n : Nat} {V V1 : World} {v : Value} {L : List Int} {m : Int} (h : NearAt R n V V1 v L m) (d : Int) :
    NearAt R n V ((V1.setCell ⟨n + 1, 0, none⟩ (.slice none 0 0)).setCell ⟨n + 1 + 1, 0, none⟩ (.int .i64 d)) (.slice none 0 0) [] d :=
  ⟨(h.q0.other (by omega) _).other (by omega) _, (h.q1.set _).other (by omega) _, (h.q2.other (by omega) _).set _, Own.nil_ _ _,
   (h.below.setCell (p := ⟨n + 1, 0, none⟩) (by show n ≤ n + 1; omega) _).setCell (p := ⟨n + 1 + 1, 0, none⟩) (by show n ≤ n + 1 + 1; omega) _,
   (h.keeps.trans (KeepsIn.setCell _ ⟨n + 1, 0, none⟩ _ (.inl (by show n + 1 < n + 3; omega)))).trans (KeepsIn.setCell _ ⟨n + 1 + 1, 0, none⟩ _ (.inl (by show n + 1 + 1 < n + 3; omega))),
   by have := h.size; simp [World.setCell]; omega⟩
theorem own_blk {A : World} {B : Nat} {v : Value} {xs : List Int} (h : Own A B v xs) : ∀ g, v.ownBlock = some g → B ≤ g := by
  intro g hg
  rcases h.2 with ⟨h1, _⟩ | ⟨b, cap, cur, h1, h2, h3, h4⟩
  · rw [h1] at hg; cases hg
  · rw [h1] at hg; cases hg; exact h2
/-- The end of a round: nothing was appended, or one word was. -/
theorem NearAt.keep {R n : Nat} {w V V1 : World} {v : Value} {L : List Int} {d : Int} (h : NearAt R n V V1 v L d) (pre : List (Fin 4096)) (hB : Below n w V) (hN : nearF (R : Int) (mv pre) = (L, d)) :
    KeepsIn (n + 9) (n + 17) V V1 ∧ KpOf n (n + 3) (n + 9) V V1 ∧ NearInv R n w pre V1 :=
  ⟨h.keeps.mono (by omega) (by omega), ⟨h.below, h.keeps.mono (by omega) (by omega)⟩, ⟨v, h.q1, by rw [hN]; exact h.own⟩, ⟨by rw [hN]; exact h.q2, h.q0⟩, hB.trans h.below⟩
theorem NearAt.push {R n : Nat} {V V1 V' : World} {v v' : Value} {L L' : List Int} {d : Int} (h : NearAt R n V V1 v L d) (ho : Own V' (n + 17) v' L') (hg : V1.grownBy V' v.ownBlock) :
    NearAt R n V (V'.setCell ⟨n + 1, 0, none⟩ v') v' L' d := by
  have hb := own_blk h.own
  have hs := h.size
  have hne : ∀ j, j < n + 17 → some j ≠ v.ownBlock := fun j hj e => by have := hb j e.symm; omega
  refine ⟨(h.q0.kept hg (hne _ (by omega))).other (by omega) _, (h.q1.kept hg (hne _ (by omega))).set _, (h.q2.kept hg (hne _ (by omega))).other (by omega) _,
    own_low ho (grownBy_setCell' _ _ _) (by omega), ?_, ?_, by have := hg.size; simp [World.setCell]; omega⟩
  · exact (h.below.grown hg (by omega) (fun k hk => by have := hb k (by simpa using hk); omega)).setCell (p := ⟨n + 1, 0, none⟩) (by show n ≤ n + 1; omega) _
  · exact (h.keeps.trans (KeepsIn.grown hg (by omega) (fun g e => .inr (hb g e)))).trans (KeepsIn.setCell _ ⟨n + 1, 0, none⟩ _ (.inl (by show n + 1 < n + 3; omega)))
set_option maxRecDepth 100000 in
set_option maxHeartbeats 4000000 in
theorem near_in (R : Nat) (hR : R < 16777216) (w : World) (hT : Tab2 w) (hsort : ∀ (V : World) (B : Nat) (v : Value) (L : List Int), Own V B v L → 0 < L.length → L.length ≤ 4096 → Calls Tryz.prog 70 #[v] V fun e W => e = .returned (.tuple #[]) ∧ Own W B v (L.mergeSort fun x y => decide (x ≤ y)) ∧ V.grownBy W v.ownBlock) :
    CallsIn Fence.wide 6 Tryz.prog 45 #[.int .u32 R] w fun e w' => ∃ v, e = .returned (.tuple #[v, .int .i64 (farI R)]) ∧ Own w' w.heap.size v (nearL R) ∧ Below w.heap.size w w' := by
  refine callsIn_of_wp_marks Tryz.func45 rfl trivial ?_ rfl
  simp only [Tryz.ntmps45, List.size_toArray, List.length_cons, List.length_nil, Nat.reduceAdd, Nat.reduceSub, Array.replicate_succ, Array.replicate_zero, List.push_toArray, List.append_toArray, List.nil_append, List.cons_append]
  have hmx : Tryz.prog.follows .mixedOrders = true := by kernel_rfl
  gi_wp2
  rename_i Q0 K1 hK1 K0 hK0
  have hfin : K0 { tmps := #[.int .u32 R, .pointer (some ⟨w.heap.size, 0, none⟩), .slice none 0 0, .int .i64 0, .pointer (some ⟨w.heap.size + 1, 0, none⟩), .pointer (some ⟨w.heap.size + 1 + 1, 0, none⟩), undef, undef, .func (.func 152) #[] #[.pointer (some ⟨w.heap.size + 1 + 1 + 1 + 2, 0, none⟩), .pointer (some ⟨w.heap.size + 1 + 1 + 1 + 3, 0, none⟩)], .int .u32 R, .func (.func 69) #[.int .u32 R] #[], .func (.func 110) #[] #[.pointer (some ⟨(cwW 0 4095 (World.drew (((w.alloc (.cells #[.int .u32 R] 55)).alloc (.cells #[.slice none 0 0] 61)).alloc (.cells #[.int .i64 25] 3)))).heap.size, 0, none⟩), .pointer (some ⟨(cwW 0 4095 (World.drew (((w.alloc (.cells #[.int .u32 R] 55)).alloc (.cells #[.slice none 0 0] 61)).alloc (.cells #[.int .i64 25] 3)))).heap.size + 1, 0, none⟩)], undef, undef, undef, undef, undef, undef, undef, undef, undef, undef, undef, undef, undef, undef, undef, undef, undef, undef, undef, undef, undef], defers := [] } (((cwW 0 4095 (World.drew (((w.alloc (.cells #[.int .u32 R] 55)).alloc (.cells #[.slice none 0 0] 61)).alloc (.cells #[.int .i64 25] 3)))).alloc (.cells #[.func (.func 152) #[] #[.pointer (some ⟨w.heap.size + 1 + 1 + 1 + 2, 0, none⟩), .pointer (some ⟨w.heap.size + 1 + 1 + 1 + 3, 0, none⟩)]] 94)).alloc (.cells #[.func (.func 69) #[.int .u32 R] #[]] 97)) := by
    refine hK0 _ _ ?_
    have hs3 : (((w.alloc (.cells #[.int .u32 R] 55)).alloc (.cells #[.slice none 0 0] 61)).alloc (.cells #[.int .i64 25] 3)).heap.size = w.heap.size + 3 := by simp
    have b3 : Below w.heap.size w (((w.alloc (.cells #[.int .u32 R] 55)).alloc (.cells #[.slice none 0 0] 61)).alloc (.cells #[.int .i64 25] 3)) := (((Below.refl _ w).alloc (Nat.le_refl _) _).alloc (by simp) _).alloc (by simp; omega) _
    have q0 : (((w.alloc (.cells #[.int .u32 R] 55)).alloc (.cells #[.slice none 0 0] 61)).alloc (.cells #[.int .i64 25] 3)).heap[w.heap.size]? = some (.cells #[.int .u32 R] 55 (0, 0)) := ((Boxed.new w 55 (.int .u32 R)).alloc _).alloc _
    have q1 : (((w.alloc (.cells #[.int .u32 R] 55)).alloc (.cells #[.slice none 0 0] 61)).alloc (.cells #[.int .i64 25] 3)).heap[w.heap.size + 1]? = some (.cells #[.slice none 0 0] 61 (0, 0)) := by
      have := (Boxed.new (w.alloc (.cells #[.int .u32 R] 55)) 61 (.slice none 0 0)).alloc (.cells #[.int .i64 25] 3)
      rw [World.size_alloc] at this
      exact this
    have q2 : (((w.alloc (.cells #[.int .u32 R] 55)).alloc (.cells #[.slice none 0 0] 61)).alloc (.cells #[.int .i64 25] 3)).heap[w.heap.size + 2]? = some (.cells #[.int .i64 25] 3 (0, 0)) := by
      have := Boxed.new ((w.alloc (.cells #[.int .u32 R] 55)).alloc (.cells #[.slice none 0 0] 61)) 3 (.int .i64 25)
      rw [World.size_alloc, World.size_alloc] at this
      exact this
    generalize (((w.alloc (.cells #[.int .u32 R] 55)).alloc (.cells #[.slice none 0 0] 61)).alloc (.cells #[.int .i64 25] 3)) = w3 at *
    have hs3' : w3.drew.heap.size = w.heap.size + 3 := hs3
    have b3' : Below w.heap.size w w3.drew := b3.drew
    have hT3 : Tab2 w3.drew := hT.below b3' hT.lt
    have hs5 := cwW_size 0 4095 w3.drew
    have b5 := cwW_below 0 4095 w3.drew
    rw [hs3'] at hs5
    have q0' : (cwW 0 4095 w3.drew).heap[w.heap.size]? = some (.cells #[.int .u32 R] 55 (0, 0)) := (b5.block _ (by omega)).trans q0
    have q1' : (cwW 0 4095 w3.drew).heap[w.heap.size + 1]? = some (.cells #[.slice none 0 0] 61 (0, 0)) := (b5.block _ (by omega)).trans q1
    have q2' : (cwW 0 4095 w3.drew).heap[w.heap.size + 2]? = some (.cells #[.int .i64 25] 3 (0, 0)) := (b5.block _ (by omega)).trans q2
    have hW6 : Below (cwW 0 4095 w3.drew).heap.size (cwW 0 4095 w3.drew) (((cwW 0 4095 w3.drew).alloc (.cells #[.func (.func 152) #[] #[.pointer (some ⟨w.heap.size + 1 + 1 + 1 + 2, 0, none⟩), .pointer (some ⟨w.heap.size + 1 + 1 + 1 + 3, 0, none⟩)]] 94)).alloc (.cells #[.func (.func 69) #[.int .u32 R] #[]] 97)) := ((Below.refl _ _).alloc (Nat.le_refl _) _).alloc (by simp) _
    have hsF : (((cwW 0 4095 w3.drew).alloc (.cells #[.func (.func 152) #[] #[.pointer (some ⟨w.heap.size + 1 + 1 + 1 + 2, 0, none⟩), .pointer (some ⟨w.heap.size + 1 + 1 + 1 + 3, 0, none⟩)]] 94)).alloc (.cells #[.func (.func 69) #[.int .u32 R] #[]] 97)).heap.size = w.heap.size + 9 := by rw [World.size_alloc, World.size_alloc, hs5]
    have hc7 := ((Boxed.new (cwW 0 4095 w3.drew) 94 (.func (.func 152) #[] #[.pointer (some ⟨w.heap.size + 1 + 1 + 1 + 2, 0, none⟩), .pointer (some ⟨w.heap.size + 1 + 1 + 1 + 3, 0, none⟩)])).alloc (.cells #[.func (.func 69) #[.int .u32 R] #[]] 97)).cell
    have hc8 := (Boxed.new ((cwW 0 4095 w3.drew).alloc (.cells #[.func (.func 152) #[] #[.pointer (some ⟨w.heap.size + 1 + 1 + 1 + 2, 0, none⟩), .pointer (some ⟨w.heap.size + 1 + 1 + 1 + 3, 0, none⟩)]] 94)) 97 (.func (.func 69) #[.int .u32 R] #[])).cell
    rw [World.size_alloc] at hc8
    have hit := codeWords_it 0 4095 w.heap.size (w.heap.size + 3) (w.heap.size + 9) (by omega) (by omega) w3.drew (((cwW 0 4095 w3.drew).alloc (.cells #[.func (.func 152) #[] #[.pointer (some ⟨w.heap.size + 1 + 1 + 1 + 2, 0, none⟩), .pointer (some ⟨w.heap.size + 1 + 1 + 1 + 3, 0, none⟩)]] 94)).alloc (.cells #[.func (.func 69) #[.int .u32 R] #[]] 97)) hW6 (by omega) hT.lt (by omega) (by omega) (by omega) hT3
    rw [hs3'] at hit
    have hbF : Below w.heap.size w (((cwW 0 4095 w3.drew).alloc (.cells #[.func (.func 152) #[] #[.pointer (some ⟨w.heap.size + 1 + 1 + 1 + 2, 0, none⟩), .pointer (some ⟨w.heap.size + 1 + 1 + 1 + 3, 0, none⟩)]] 94)).alloc (.cells #[.func (.func 69) #[.int .u32 R] #[]] 97)) := (b3'.trans (b5.mono b3'.size)).trans (hW6.mono (by omega))
    have p0 := (hW6.block w.heap.size (by omega)).trans q0'
    have p1 := (hW6.block (w.heap.size + 1) (by omega)).trans q1'
    have p2 := (hW6.block (w.heap.size + 2) (by omega)).trans q2'
    clear q0 q1 q2 q0' q1' q2' hW6 b5 b3' b3
    rw [hs5] at hc7 hc8 ⊢
    generalize ((cwW 0 4095 w3.drew).alloc (.cells #[.func (.func 152) #[] #[.pointer (some ⟨w.heap.size + 1 + 1 + 1 + 2, 0, none⟩), .pointer (some ⟨w.heap.size + 1 + 1 + 1 + 3, 0, none⟩)]] 94)).alloc (.cells #[.func (.func 69) #[.int .u32 R] #[]] 97) = wf at *
    have hit2 := madeW_it 152 69 #[.pointer (some ⟨w.heap.size + 1 + 1 + 1 + 2, 0, none⟩), .pointer (some ⟨w.heap.size + 1 + 1 + 1 + 3, 0, none⟩)] #[.int .u32 R] encW (fun x => .int .u32 (xorI R (codeOf (x.val : Nat)))) (fun x => .int .u32 (codeOf (x.val : Nat))) (fun _ => rfl) 3 w.heap.size (w.heap.size + 3) (w.heap.size + 9) (w.heap.size + 7) (w.heap.size + 8) _ _ _ wf wf (fun _ => True) hit (Below.refl _ _)
      (enters_of Tryz.func152 (by kernel_rfl) rfl) (enters_of Tryz.func69 (by kernel_rfl) rfl) (fun _ _ _ _ => trivial)
      (fun x V _ => by
        have hr := codeOf_range (x.val : Nat)
        refine (word_add (R : Int) (codeOf (x.val : Nat)) V (by omega) (by omega) hr.1 hr.2).mono ?_
        rintro e w' ⟨rfl, rfl⟩
        exact ⟨rfl, Below.refl _ _⟩)
      (by omega) (by omega) (by omega) (by omega) (by omega) (by omega) hc7 hc8 trivial
    -- LOOP
    gi_wp2
    refine wp_range_it (gf := 110) (lb := #[.pointer (some ⟨w.heap.size + 7, 0, none⟩), .pointer (some ⟨w.heap.size + 8, 0, none⟩)]) rfl (enters_of Tryz.func110 (by kernel_rfl) rfl) hit2 (fun h k => KpOf.trans h k) (fun V j o hj hjl => KpOf.put V j o (by omega) (by omega) hjl) (Below.refl _ _) (fun _ => rfl)
      (NearInv R w.heap.size w) (fun _ _ _ => False) (NearInv.own rfl (by omega)) (fun _ _ _ _ _ hs _ _ => hs)
      ⟨⟨.slice none 0 0, p1, Own.nil_ _ _⟩, ⟨p2, p0⟩, hbF⟩
      (fun x => { tmps := #[.int .u32 R, .pointer (some ⟨w.heap.size, 0, none⟩), .slice none 0 0, .int .i64 0, .pointer (some ⟨w.heap.size + 1, 0, none⟩), .pointer (some ⟨w.heap.size + 1 + 1, 0, none⟩), .int .u32 (xorI R (codeOf (x.val : Nat))), undef, .func (.func 152) #[] #[.pointer (some ⟨w.heap.size + 1 + 1 + 1 + 2, 0, none⟩), .pointer (some ⟨w.heap.size + 1 + 1 + 1 + 3, 0, none⟩)], .int .u32 R, .func (.func 69) #[.int .u32 R] #[], .func (.func 110) #[] #[.pointer (some ⟨w.heap.size + 3 + 4, 0, none⟩), .pointer (some ⟨w.heap.size + 3 + 4 + 1, 0, none⟩)], .int .u32 (xorI R (codeOf (x.val : Nat))), undef, undef, undef, undef, undef, undef, undef, undef, undef, undef, undef, undef, undef, undef, undef, undef, undef, undef, undef, undef], defers := [] }) ?assign ?body ?done ?stop
    case assign =>
      intro l x V K hK
      gi_wp2
      exact hK
    case body =>
      rintro l pre x V ⟨⟨v, q1, ho⟩, ⟨q2, q0⟩, hB⟩ hlen hsK
      have hr := codeOf_range (x.val : Nat)
      have hX0 := xorI_nonneg (R : Int) (codeOf (x.val : Nat))
      have hX1 := xorI_le (R : Int) (codeOf (x.val : Nat)) (by omega) hr.2
      have hW : wt (xorI (R : Int) (codeOf (x.val : Nat))) = dI (x.val : Nat) R := by unfold dI; rw [xorI_comm]
      have hback : xorI (R : Int) (xorI (R : Int) (codeOf (x.val : Nat))) = codeOf (x.val : Nat) := by rw [xorI_comm (R : Int) (xorI _ _), xorI_comm (R : Int) (codeOf _), xorI_back _ _ hr.1]
      have hd := dI_range (x.val : Nat) (R : Int)
      have hll := nearF_le (R : Int) (mv pre)
      rw [mv_len] at hll
      have hm := nearF_rng (R : Int) (mv pre)
      have hN : nearF (R : Int) (mv (pre ++ [x])) = nearStep (R : Int) (nearF (R : Int) (mv pre)) x.val := by rw [mv_snoc, nearF_snoc]
      unfold nearStep at hN
      generalize nearF (R : Int) (mv pre) = S at *
      obtain ⟨L, m⟩ := S
      simp only [] at hN q2 ho hll hm
      generalize dI ((x.val : Nat) : Int) (R : Int) = d at *
      have hc0 : V.cell? ⟨w.heap.size, 0, none⟩ = some (.int .u32 R) := Boxed.cell (t := 55) q0
      have hc1 : V.cell? ⟨w.heap.size + 1, 0, none⟩ = some v := Boxed.cell (t := 61) q1
      have hc2 : V.cell? ⟨w.heap.size + 1 + 1, 0, none⟩ = some (.int .i64 m) := Boxed.cell (t := 3) q2
      generalize xorI (R : Int) (codeOf (x.val : Nat)) = X at *
      generalize codeOf ((x.val : Nat) : Int) = c at *
      have HWT := Lib.hid hW
      have HB := Lib.hid hback
      have Q0' := Lib.hid q0
      have Q1' := Lib.hid q1
      have Q2' := Lib.hid q2
      clear hW hback q0 q1 q2 hit hit2 p0 p1 p2 hs3 hs3' hT3 hs5 hc7 hc8 hbF
      have hWC : ∀ V2 : World, Calls Tryz.prog 44 #[.int .u32 X] V2 fun e w' => e = .returned (.int .i64 d) ∧ ∃ k, w' = V2.drewN k := fun V2 => by
        have := word_weight X V2 hX0 hX1
        rwa [HWT.out] at this
      have hAC : ∀ V2 : World, Calls Tryz.prog 69 #[.int .u32 R, .int .u32 X] V2 fun e w' => e = .returned (.int .u32 c) ∧ V2 = w' := fun V2 => by
        have := word_add (R : Int) X V2 (by omega) (by omega) hX0 hX1
        rwa [HB.out] at this
      have hwc : IntKind.i64.wrap c = c := by rw [IntKind.wrap_i64]; omega
      have hf1 : V.frozen? ⟨w.heap.size + 1, 0, none⟩ = false := Lib.frozen_of_heap Q1'.out _
      have hf2 : V.frozen? ⟨w.heap.size + 1 + 1, 0, none⟩ = false := Lib.frozen_of_heap Q2'.out _
      have hlV : w.heap.size + 17 ≤ V.heap.size := by omega
      have NS := Lib.hid (fun k => NearAt.start (w := w) (R := R) (n := w.heap.size) Q0'.out Q1'.out Q2'.out ho hlV k)
      have hpost : ∀ (L : List Int) (d : Int), nearF (R : Int) (mv (pre ++ [x])) = (L, d) → ∀ (a : Act) {V1 : World} {v : Value}, NearAt R w.heap.size V V1 v L d → postIt wf.heap.size (wf.heap.size + 2 + (3 + 3)) (KpOf w.heap.size (w.heap.size + 3) (w.heap.size + 9)) (NearInv R w.heap.size w) (fun _ _ _ => False) (pre ++ [x]) V Exit.normal a V1 := by
        intro L d hN a V1 v h
        rw [hsF]
        exact h.keep (pre ++ [x]) hB hN
      by_cases hlt : d < m
      · rw [if_pos hlt] at hN
        gi_wp2_with (refine ⟨trivial, ?_⟩; refine (CallsIn.inRound l (callsIn_wide.2 (hWC _))).mono ?_; rintro e w' ⟨rfl, kk, rfl⟩)
        have NA := (NS.out kk).reset d
        clear hc0 hc1 hc2 hf1 hf2
        generalize ((V.drewN kk).setCell ⟨w.heap.size + 1, 0, none⟩ (.slice none 0 0)).setCell ⟨w.heap.size + 1 + 1, 0, none⟩ (.int .i64 d) = V1 at *
        have hc0 := NA.q0.cell
        have hc1 := NA.q1.cell
        have hs1 := NA.size
        have hc4 := (NA.q1.alloc (.cells #[.int .i64 c] 3)).cell
        have hc5 : (World.drew (V1.alloc (.cells #[.int .i64 c] 3))).cell? ⟨w.heap.size + 1, 0, none⟩ = _ := hc4
        obtain ⟨v', V', hp1, hp2, hp3⟩ := push_run V1 (w.heap.size + 17) (.slice none 0 0) [] c 1 61 NA.own (by simp) hs1
        obtain ⟨g', cap', rfl⟩ := own_form hp2
        have NB := Lib.hid (NA.push hp2 hp3)
        have hf3 : V'.frozen? ⟨w.heap.size + 1, 0, none⟩ = false := (NA.q1.kept hp3 (fun e => by have := own_blk NA.own _ e.symm; omega)).frozen
        have hc3 := (NA.q1.kept hp3 (fun e => by have := own_blk NA.own _ e.symm; omega)).cell
        change (myApp #[61, 61] 61 #[.slice none 0 0, .slice (some ⟨V1.heap.size, 0, none⟩) 1 1]).run Tryz.prog _ = _ at hp1
        have HP1 := Lib.hid hp1
        clear hp2 hp3 NA hs1
        gi_region_with_o (refine ⟨trivial, ?_⟩; refine (CallsIn.inRound l (callsIn_wide.2 (hAC _))).mono ?_; rintro e w' ⟨rfl, rfl⟩; have hp1 := HP1.out)
        all_goals gi_wp2
        all_goals exact hpost _ _ hN _ NB.out
      · rw [if_neg hlt] at hN
        by_cases heq : d = m
        · rw [if_pos heq] at hN
          gi_wp2_with (refine ⟨trivial, ?_⟩; refine (CallsIn.inRound l (callsIn_wide.2 (hWC _))).mono ?_; rintro e w' ⟨rfl, kk, rfl⟩)
          have NA := NS.out kk
          clear hc0 hc1 hc2 hf1 hf2
          generalize V.drewN kk = V1 at *
          have hc0 := NA.q0.cell
          have hc1 := NA.q1.cell
          have hs1 := NA.size
          have hc4 := (NA.q1.alloc (.cells #[.int .i64 c] 3)).cell
          have hc5 : (World.drew (V1.alloc (.cells #[.int .i64 c] 3))).cell? ⟨w.heap.size + 1, 0, none⟩ = _ := hc4
          obtain ⟨v', V', hp1, hp2, hp3⟩ := push_run V1 (w.heap.size + 17) v L c 1 61 NA.own (by omega) hs1
          obtain ⟨g', cap', rfl⟩ := own_form hp2
          have NB := Lib.hid (NA.push hp2 hp3)
          have hf3 : V'.frozen? ⟨w.heap.size + 1, 0, none⟩ = false := (NA.q1.kept hp3 (fun e => by have := own_blk NA.own _ e.symm; omega)).frozen
          have hc3 := (NA.q1.kept hp3 (fun e => by have := own_blk NA.own _ e.symm; omega)).cell
          change (myApp #[61, 61] 61 #[v, .slice (some ⟨V1.heap.size, 0, none⟩) 1 1]).run Tryz.prog _ = _ at hp1
          have HP1 := Lib.hid hp1
          clear hp2 hp3 NA hs1
          gi_region_with_o (refine ⟨trivial, ?_⟩; refine (CallsIn.inRound l (callsIn_wide.2 (hAC _))).mono ?_; rintro e w' ⟨rfl, rfl⟩; have hp1 := HP1.out)
          all_goals gi_wp2
          all_goals exact hpost _ _ hN _ NB.out
        · rw [if_neg heq] at hN
          gi_wp2_with (refine ⟨trivial, ?_⟩; refine (CallsIn.inRound l (callsIn_wide.2 (hWC _))).mono ?_; rintro e w' ⟨rfl, kk, rfl⟩)
          exact hpost _ _ hN _ (NS.out _)
    case done =>
      rintro D ys V hD hS ⟨⟨v, q1, ho⟩, ⟨q2, q0⟩, hB⟩ hK
      have hS' : mv ys = msgs 0 4095 := hS
      obtain ⟨k4, hk4, hms⟩ : ∃ k, k = 4096 ∧ msgs 0 4095 = List.range k := ⟨_, rfl, msgs_all⟩
      rw [hS', hms] at ho q2
      have hlen := nearF_len (R : Int) k4 hk4
      have hnl := nearL_len (R : Int) (by omega) (by omega)
      rw [nearF_far (R : Int) k4 hk4] at q2
      have hc1 : V.cell? ⟨w.heap.size + 1, 0, none⟩ = some v := Boxed.cell (t := 61) q1
      have hc2 : V.cell? ⟨w.heap.size + 1 + 1, 0, none⟩ = some (.int .i64 (farI R)) := Boxed.cell (t := 3) q2
      have HSI := Lib.hid (fun L hp hs => near_sorted_is (R : Int) k4 hk4 L hp hs)
      clear hit hit2 p0 p1 p2 hs3 hs3' hT3 hs5 hc7 hc8 hbF hS hS' hms
      generalize (nearF (R : Int) (List.range k4)).1 = L at *
      have hb := own_blk ho
      have hvs : w.heap.size + 1 < V.heap.size := Boxed.lt (t := 61) q1
      have HQ1 := Lib.hid q1
      have HQ2 := Lib.hid q2
      have HO := Lib.hid ho
      clear q1 q2 ho
      gi_wp2_with (refine ⟨trivial, ?_⟩; gi_at_call 70; refine (callsIn_wide.2 (hsort _ _ _ _ HO.out (by omega) (by omega))).mono ?_; rintro e W2 ⟨rfl, hown, hg⟩; have hc3 := (Boxed.kept HQ1.out hg (fun e => by have := hb _ e.symm; omega)).cell; have hc4 := (Boxed.kept (B := w.heap.size + 2) HQ2.out hg (fun e => by have := hb _ e.symm; omega)).cell)
      have hne : some D ≠ v.ownBlock := by
        intro e
        rcases HO.out.2 with ⟨h1, _⟩ | ⟨b, cap, cur, h1, h2, h3, _⟩
        · rw [h1] at e; cases e
        · rw [h1] at e; cases e; rw [h3] at hK; cases hK
      have hKW : W2.heap[D]? = some (.deferred (some [])) := (hg.block D (Array.getElem?_eq_some_iff.1 hK).1 hne).trans hK
      rw [HSI.out _ (List.mergeSort_perm _ _) (ms_sorted _)] at hown
      have hBW : Below w.heap.size w W2 := hB.trans ((Below.refl _ _).grown hg hB.size (fun k hk => by have := hb k (by simpa using hk); omega))
      have HK := Lib.hid (show W2.drew.heap[D]? = some (.deferred (some [])) from hKW)
      have HW : Hid (Own W2.drew (w.heap.size + 17) v (nearL R)) := Lib.hid hown
      have HBW := Lib.hid hBW.drew
      have hDn : w.heap.size ≤ D := by omega
      clear hKW hown hBW hB hK hg hne hb HO HQ1 HQ2 HSI
      gi_big_region_o
      all_goals gi_wp2
      all_goals (refine ⟨by simp, .inl ⟨_, _, rfl, run_takeDeferred HK.out, ?_⟩⟩)
      all_goals (refine ⟨_, results_tmp2 rfl _ _ _, _, rfl, ?_, ?_⟩)
      all_goals first
        | exact (own_turn (B' := 0) (HW.out) (grownBy_putObj' W2.drew D _) (fun r e => by cases e; exact ⟨Nat.zero_le _, _, HK.out, rfl⟩)).weak (by omega)
        | exact HBW.out.trans (belowK_b (w := w) (Nat.le_refl _) W2.drew D _ _ (by omega) HK.out rfl rfl)
    case stop =>
      rintro D c pre V _ _ h _
      exact h.elim
  gi_region_with_o (first
    | (refine ⟨trivial, ?_⟩; gi_at_call 68; refine (callsIn_wide.2 (codeWords_calls _ _ _)).mono ?_; rintro e w' ⟨rfl, rfl⟩; have hcB := (cwW_below 0 4095 (World.drew (((w.alloc (.cells #[.int .u32 R] 55)).alloc (.cells #[.slice none 0 0] 61)).alloc (.cells #[.int .i64 25] 3)))).cell (p := ⟨w.heap.size, 0, none⟩) (by show w.heap.size < _; simp [World.drew]; omega))
    | (refine ⟨trivial, ?_⟩; gi_at_call 67; refine (callsIn_wide.2 (madeW_calls _ _ _ _ _)).mono ?_; rintro e w' ⟨rfl, rfl⟩))
  all_goals exact hfin
end Go.Proofs.YtcfhfllcdliaoaaGreatDoor
/- Sorting a list that the call owns; the nearest words, of the program, with nothing left open. -/
namespace Go.Proofs.YtcfhfllcdliaoaaGreatDoor
open Go.RowKit Go.Sort
set_option linter.unusedVariables false

theorem sort_own (V : World) (B : Nat) (v : Value) (L : List Int) (h : Own V B v L) (h0 : 0 < L.length) (hl : L.length ≤ 4096) :
    Calls Tryz.prog 70 #[v] V fun e W => e = .returned (.tuple #[]) ∧ Own W B v (L.mergeSort fun x y => decide (x ≤ y)) ∧ V.grownBy W v.ownBlock := by
  rcases h.2 with ⟨_, hz⟩ | ⟨g, cap, cur, rfl, hbase, hb, h1, h2, h3, h4⟩
  · omega
  refine (Tryz.slices_Sort_int g 0 cap L V (holds_of_blockI hb (by simpa [vals] using h4)) (Array.getElem?_eq_some_iff.1 hb).1 (by omega)).mono ?_
  rintro e W ⟨rfl, n, os, rfl⟩
  refine ⟨rfl, ?_, grownBy_sortedI _⟩
  have := ownsRow_sortedI (os := os) (n := n) (ts := L.mergeSort fun x y => decide (x ≤ y)) (ss := L) (by simp) hbase hb h1 h2 h3
  unfold Own vals
  rw [List.length_mergeSort]
  exact this
theorem own_at1 {w : World} {B : Nat} {v : Value} {xs : List Int} (h : Own w B v xs) (hp : 0 < xs.length) : ∃ g c, v = .slice (some ⟨g, 0, none⟩) xs.length c := by
  rcases h.form with ⟨_, h1⟩ | ⟨g, c, h1, _⟩
  · subst h1; simp at hp
  · exact ⟨g, c, h1⟩
theorem near_run (R : Int) (h0 : 0 ≤ R) (h1 : R ≤ 16777215) (w : World) (hT : Tab2 w) :
    Calls Tryz.prog 45 #[.int .u32 R] w fun e w' => ∃ v, e = .returned (.tuple #[v, .int .i64 (farI R)]) ∧ Own w' w.heap.size v (nearL R) ∧ Below w.heap.size w w' := by
  obtain ⟨r, rfl⟩ := Int.eq_ofNat_of_zero_le h0
  exact callsIn_wide.1 (near_in r (by omega) w hT sort_own)
theorem iCodeFar_calls (n : Int) (w : World) (hT : Tab2 w) :
    Calls Tryz.prog 20 #[.int .i64 n] w fun e w' => e = .returned (.int .i64 (cFar n)) ∧ Below w.heap.size w w' := by
  rcases hb : wordB n with _ | _
  · have hn := (wordB_no n).1 hb
    rw [show cFar n = -1 by simp [cFar, hb]]
    clear hb
    go_enter Tryz.func20, Tryz.ntmps20
    go_wp2_with (go_at_call 40; refine (wordFrom_no _ _ hn).mono ?_; rintro e w' ⟨rfl, rfl⟩)
    go_ret
    exact ⟨rfl, Below.refl _ _⟩
  · have hn := (wordB_iff n).1 hb
    rw [show cFar n = farI n by simp [cFar, hb]]
    clear hb
    go_enter Tryz.func20, Tryz.ntmps20
    go_wp2_with (first
      | (go_at_call 40; refine (wordFrom_ok _ _ hn.1 hn.2).mono ?_; rintro e w' ⟨rfl, rfl⟩)
      | (go_at_call 45; refine (near_run _ hn.1 hn.2 _ hT).mono ?_; rintro e w1 ⟨v, rfl, o1, b1⟩))
    go_ret
    exact ⟨rfl, b1⟩
theorem iCodeMend_calls (n : Int) (w : World) (hT : Tab2 w) :
    Calls Tryz.prog 22 #[.int .i64 n] w fun e w' => e = .returned (.tuple #[.int .i64 (cMend n).1, .bool (cMend n).2]) ∧ Below w.heap.size w w' := by
  rcases hb : wordB n with _ | _
  · have hn := (wordB_no n).1 hb
    rw [show cMend n = (0, false) by simp [cMend, hb]]
    clear hb
    go_enter Tryz.func22, Tryz.ntmps22
    go_wp2_with (go_at_call 40; refine (wordFrom_no _ _ hn).mono ?_; rintro e w' ⟨rfl, rfl⟩)
    go_ret2
    exact ⟨rfl, Below.refl _ _⟩
  · have hn := (wordB_iff n).1 hb
    have HN := Lib.hid (nearL_len n hn.1 hn.2)
    by_cases hd : farI n ≤ 3
    · obtain ⟨L, hL⟩ : ∃ L, nearL n = L := ⟨_, rfl⟩
      have hM : cMend n = (L.getD 0 0, true) := by rw [← hL]; simp [cMend, hb, hd]
      obtain ⟨y, hy⟩ : ∃ y, L.getD 0 0 = y := ⟨_, rfl⟩
      rw [hM, hy]
      have HL := Lib.hid hL
      have HY := Lib.hid hy
      clear hb hM hL hy
      go_enter Tryz.func22, Tryz.ntmps22
      go_wp2_with (go_at_call 40; refine (wordFrom_ok _ _ hn.1 hn.2).mono ?_; rintro e w' ⟨rfl, rfl⟩)
      refine (near_run _ hn.1 hn.2 _ hT).mono ?_
      rintro e w1 ⟨v, rfl, o1, b1⟩
      rw [HL.out] at o1
      have hl1 : L.length = 1 := by rw [← HL.out]; rcases HN.out with h | h <;> omega
      obtain ⟨g, c, rfl⟩ := own_at1 o1 (by omega)
      have hc0 := o1.cell (j := 0) (by omega)
      have hf0 := o1.free 0
      rw [hl1]
      rw [HY.out] at hc0
      clear HL HN HY hl1 o1
      generalize farI n = f at *
      go_wp2
      go_ret2
      exact ⟨rfl, b1⟩
    · rw [show cMend n = (0, false) by simp [cMend, hb, hd]]
      clear hb
      go_enter Tryz.func22, Tryz.ntmps22
      go_wp2_with (first
        | (go_at_call 40; refine (wordFrom_ok _ _ hn.1 hn.2).mono ?_; rintro e w' ⟨rfl, rfl⟩)
        | (go_at_call 45; refine (near_run _ hn.1 hn.2 _ hT).mono ?_; rintro e w1 ⟨v, rfl, o1, b1⟩))
      go_ret2
      exact ⟨rfl, b1⟩
end Go.Proofs.YtcfhfllcdliaoaaGreatDoor