/- Joined texts: C25 C27. -/
import Derived.Shelf.RegionOpen
import Derived.Test.YtiodikflmijhkaaGreatDoorJ09
import Derived.Test.YtiodikflmijhkaaGreatDoorJ08
import Derived.Test.YtiodikflmijhkaaGreatDoorJ05
import Derived.Test.YtiodikflmijhkaaGreatDoorJ04
section
namespace Go.Proofs.YtiodikflmijhkaaGreatDoor
open Go.RowKit Go.Shelf
attribute [local go_sem] Oper.semAt_some
set_option linter.unusedVariables false

theorem and15_u32 (x : Int) (h0 : 0 ≤ x) (h1 : x < 4294967296) : bits .and .u32 x 15 = x % 16 :=
  bits_mask .u32 32 (by decide) (fun n h0 h1 => by rw [IntKind.wrap_u32]; omega) 4 (by decide) x h0 (by omega)
theorem word_column (n : Int) (c : Nat) (w : World) (h0 : 0 ≤ n) (h1 : n ≤ 16777215) (hc : c < 6) :
    Calls Tryz.prog 131 #[.int .u32 n, .int .i64 c] w fun e w' => e = .returned (.int .u32 (colI n c)) ∧ w = w' := by
  have hv : bits .and .u32 (n / 2 ^ (c * 4)) 15 = colI n c := by
    rw [and15_u32 _ (Int.ediv_nonneg h0 (by exact Int.le_of_lt (Int.pow_pos (by decide)))) (by have := Int.ediv_le_self (2 ^ (c * 4)) h0; omega)]
    unfold colI; rw [Nat.mul_comm]
  go_enter Tryz.func131, Tryz.ntmps131
  go_wp2_with (go_at_call 82; refine (placeAt_calls _ _ _ (by omega) (by omega) (by omega) (by omega)).mono ?_; rintro e w' ⟨rfl, rfl⟩)
  go_ret
  exact ⟨rfl, rfl⟩
/-- The iterator over places, its elements read through f. -/
theorem placesA_stops {α : Type} (f : α → Nat) (n : Nat) (hn : 1 ≤ n) (Bn n₀ : Nat) (R : Nat) (hR : R < 16777216) (xs : List α) (hxs : xs.map f = pl R) (w : World) (hBn : Bn < w.heap.size) (hn₁ : n₀ ≤ w.heap.size) (hn₀ : 1 < n₀)
    (hc : w.cell? ⟨Bn, 0, none⟩ = some (.int .u32 R)) (hT : TabB w) :
    SeqStopsK Fence.wide n Tryz.prog 127 #[.pointer (some ⟨Bn, 0, none⟩)] (fun x : α => #[Value.int .i64 (f x : Nat)]) (Below n₀) (fun ys => ys = xs) (fun pre => pre <+: xs) xs.length w := by
  intro l J Jx W0 hW _ _ hY h0
  have hBn' : W0.cell? ⟨Bn, 0, none⟩ = some (.int .u32 R) := (hW.cell (p := ⟨Bn, 0, none⟩) hBn).trans hc
  have hT' : TabB W0 := hT.below hW hT.lt
  clear hc hT hW
  refine callsIn_of_wp Tryz.func127 rfl trivial ?_ rfl
  simp only [Tryz.ntmps127, List.size_toArray, List.length_cons, List.length_nil, Nat.reduceAdd, Nat.reduceSub, Array.replicate_succ, Array.replicate_zero, List.push_toArray, List.append_toArray, List.nil_append, List.cons_append]
  gi_wp2
  gi_loopw [3] (fun p wr => ∃ (pre rest : List α) (V : Nat), p = .int .u32 V ∧ V < 16777216 ∧ Hid (xs = pre ++ rest) ∧ Hid (rest.map f = pl V) ∧ Hid (TabB wr) ∧ J pre wr)
    (fun p wr => (intOf p).toNat)
  case atStart =>
    exact ⟨[], xs, R, rfl, hR, Lib.hid rfl, Lib.hid hxs, Lib.hid hT', h0⟩
  case round =>
    obtain ⟨pre, rest, V, rfl, hV, hx, hl, hTr, hJs⟩ := hrel
    by_cases hz : V = 0
    · subst hz
      have hr : rest = [] := by have := hl.out; rw [pl_zero] at this; simpa using this
      subst hr
      gi_wp2
      go_end0
      exact ⟨⟨_, rfl⟩, .inl ⟨pre, by have := hx.out; simpa using this.symm, hJs⟩⟩
    · obtain ⟨hp, hc, hlt, hlt2⟩ := pl_step V hz hV
      obtain ⟨x, rest', rfl, hxv, hrest⟩ : ∃ x rest', rest = x :: rest' ∧ f x = Lib.ctz 32 V ∧ rest'.map f = pl (V &&& (V - 1)) := by
        have := hl.out
        rw [hp] at this
        match rest, this with
        | x :: rest', h => simp only [List.map_cons, List.cons.injEq] at h; exact ⟨x, rest', rfl, h.1, h.2⟩
      obtain ⟨fn, tmps, assign, body, hy, hRn⟩ := hY pre x wr hJs (by rw [hx.out]; simp)
      have hz1 : ((V : Int) != 0) = true := by simp; omega
      have hz2 : ((V : Int) == 0) = false := by simp; omega
      rw [hxv] at hy
      have HX := Lib.hid hx
      have HR := Lib.hid hrest
      have HP := Lib.hid hz
      clear hp hxv hrest hl hz
      gi_wp2_with (refine ⟨trivial, ?_⟩; gi_at_call 128; refine (callsIn_wide.2 (tz32_calls V wr HP.out hV hTr.out)).mono ?_; rintro e w' ⟨rfl, rfl⟩)
      refine hRn.mono ?_
      rintro e W3 (⟨rfl, hJ3, hk3⟩ | ⟨rfl, hJx3⟩)
      · have hvv : bits .and .u32 (V : Int) ((V : Int) - 1) = ((V &&& (V - 1) : Nat) : Int) := by
          rw [and_u32 _ _ (by omega) (by omega) (by have := HP.out; omega) (by omega)]
          unfold andI
          rw [show ((V : Int) - 1).toNat = V - 1 by omega, Int.toNat_natCast]
        have hV1 : 1 ≤ V := by have := HP.out; omega
        have HT3 := Lib.hid (hTr.out.below hk3 hn₀)
        gi_wp2
        go_roundw
        case rel => exact ⟨pre ++ [x], rest', V &&& (V - 1), rfl, hlt2, Lib.hid (by rw [hx.out]; simp), HR, HT3, hJ3⟩
        case measure => simp [intOf]; omega
      · gi_wp2
        refine bodyPost_ret (results_none rfl _ _ _) rfl ?_
        exact ⟨⟨_, rfl⟩, .inr ⟨pre ++ [x], ⟨rest', by rw [hx.out]; simp⟩, hJx3⟩⟩
/-- The digits of a column's places, added up. -/
def rowSum (pre : List (Fin 4)) : Int := pre.foldl (fun s x => xorI s (x.val : Int)) 0
theorem rowSum_snoc (pre : List (Fin 4)) (x : Fin 4) : rowSum (pre ++ [x]) = xorI (rowSum pre) (x.val : Int) := by simp [rowSum]
theorem rowSum_d (pre : List (Fin 4)) : IsD (rowSum pre) := by
  induction pre using snocInd with
  | nil => exact zero_d
  | append_singleton ms m ih => rw [rowSum_snoc]; exact xorI_d ih ⟨by omega, by omega⟩
theorem col_places : ∀ v : Fin 16, ∃ xs : List (Fin 4), xs.map (fun x => x.val) = pl v.val ∧ rowSum xs = scN (v.val : Int) ∧ xs.length ≤ 4 := by
  have h : ∀ v : Fin 16, ((List.finRange 4).filter fun i => v.val.testBit i.val).map (fun x => x.val) = pl v.val ∧ rowSum ((List.finRange 4).filter fun i => v.val.testBit i.val) = scN (v.val : Int) ∧ ((List.finRange 4).filter fun i => v.val.testBit i.val).length ≤ 4 := by decide
  exact fun v => ⟨_, h v⟩
/-- The marks of loops over iterators, behind one another. -/
def marksD (ds : List Nat) : List Deferred := ds.map fun D => { target := .collected D, args := #[] }
theorem leaves_marks {F : Fence} {n : Nat} {P : Program} {fn : Func} {tmps : Array Value} {R : Ending → World → Prop} : ∀ (ds : List Nat) (W : World), ds.Nodup → (∀ D ∈ ds, W.heap[D]? = some (.deferred (some []))) →
    (∀ W', W'.heap.size = W.heap.size → (∀ g, g ∉ ds → W'.heap[g]? = W.heap[g]?) → (W'.os = W.os ∧ W'.tape = W.tape ∧ W'.output = W.output) → LeavesInM F n P fn tmps R [] .returning W') → LeavesInM F n P fn tmps R (marksD ds) .returning W
  | [], W, _, _, h => h W rfl (fun _ _ => rfl) ⟨rfl, rfl, rfl⟩
  | D :: ds, W, hn, hd, h => by
    obtain ⟨h1, h2⟩ := List.nodup_cons.1 hn
    refine ⟨by simp, .inl ⟨D, _, rfl, run_takeDeferred (hd D (by simp)), ?_⟩⟩
    refine leaves_marks ds _ h2 (fun E hE => (World.putObj_heap_other (by rintro rfl; exact h1 hE)).trans (hd E (by simp [hE]))) ?_
    intro W' hs hg ho
    refine h W' (by rw [hs]; simp) (fun g hg' => ?_) ho
    rw [hg g (by simp at hg'; exact hg'.2)]
    exact World.putObj_heap_other (by simp at hg'; exact hg'.1)
def partRow (n : Int) (c : Nat) : List Int := (List.range 6).map fun j => if j < c then scoreI n j else 0
theorem partRow_len (n : Int) (c : Nat) : (partRow n c).length = 6 := by simp [partRow]
theorem partRow_at (n : Int) (c : Nat) (hc : c < 6) : (partRow n c).getD c 0 = 0 := by simp [partRow, hc]
theorem partRow_step (n : Int) (c : Nat) (hc : c < 6) : (partRow n c).set c (scoreI n c) = partRow n (c + 1) := by
  apply List.ext_getElem
  · simp [partRow]
  · intro i h1 h2
    have hi : i < 6 := by simpa [partRow] using h2
    rw [List.getElem_set]
    simp only [partRow, List.getElem_map, List.getElem_range]
    by_cases e : c = i
    · subst e; simp
    · by_cases hl : i < c
      · rw [if_neg e, if_pos hl, if_pos (by omega)]
      · rw [if_neg e, if_neg hl, if_neg (by omega)]
theorem partRow_all (n : Int) : partRow n 6 = scoresI n := rfl
theorem ownFrom_at {β : Type} {B g : Nat} (f : β → Obj) (hgB : g < B) : OwnFrom B (fun (s : β) W => W.heap[g]? = some (f s)) :=
  fun s A C row hs hg hr => (hg.block g (Array.getElem?_eq_some_iff.1 hs).1 fun e => by have := (hr g e.symm).1; omega).trans hs
theorem ownFrom_all {β : Type} {B : Nat} (ds : List Nat) (o : Obj) (hgB : ∀ D ∈ ds, D < B) : OwnFrom B (fun (_ : β) W => ∀ D ∈ ds, W.heap[D]? = some o) :=
  fun s A C row hs hg hr D hD => ownFrom_at (β := Unit) (fun _ => o) (hgB D hD) () A C row (hs D hD) hg hr
theorem Blk.at_ {w : World} {g : Nat} {t : TypeId} {xs : List Int} {k : IntKind} {j : Nat} (h : Blk w g t (vals k xs).toArray) (hj : j < xs.length) : w.cell? ⟨g, j, none⟩ = some (.int k (xs.getD j 0)) := by
  rw [h.cell j]
  have := vals_get k xs j hj
  simpa using this
theorem Blk.put {w : World} {g : Nat} {t : TypeId} {xs : List Int} {k : IntKind} (h : Blk w g t (vals k xs).toArray) (j : Nat) (x : Int) : Blk (w.setCell ⟨g, j, none⟩ (.int k x)) g t (vals k (xs.set j x)).toArray := by
  have := h.set j (.int k x)
  rwa [List.setIfInBounds_toArray, vals_set] at this
theorem heap_far6 {W : World} {g : Nat} {x0 x1 x2 x3 x4 x5 : Value} (D : Nat) (hne : D ≠ g) : ((((((W.setCell ⟨g, 0, none⟩ x0).setCell ⟨g, 1, none⟩ x1).setCell ⟨g, 2, none⟩ x2).setCell ⟨g, 3, none⟩ x3).setCell ⟨g, 4, none⟩ x4).setCell ⟨g, 5, none⟩ x5).heap[D]? = W.heap[D]? := by
  rw [Below.heap_setCell _ ⟨g, 5, none⟩ _ D hne, Below.heap_setCell _ ⟨g, 4, none⟩ _ D hne, Below.heap_setCell _ ⟨g, 3, none⟩ _ D hne, Below.heap_setCell _ ⟨g, 2, none⟩ _ D hne, Below.heap_setCell _ ⟨g, 1, none⟩ _ D hne, Below.heap_setCell _ ⟨g, 0, none⟩ _ D hne]
theorem score_fin {w W W' : World} {t u : TypeId} {zs : Array Value} {P Z : List Int} {c : Nat} {z V : Int} {cc : Value} {ds : List Nat} (q0 : Blk W' w.heap.size t zs) (q1 : Blk W' (w.heap.size + 1) t (vals .u8 (P.set c V)).toArray) (q2 : Boxed W' W.heap.size u cc) (q3 : ∀ D ∈ ds, W'.heap[D]? = some (.deferred (some [])))
    (hB : Below w.heap.size w W') (hZ : (P.set c V).set c z = Z) (hs : w.heap.size + 2 ≤ W.heap.size) :
    let X := (W'.setCell ⟨w.heap.size + 1, c, none⟩ (.int .u8 z)).drew
    KeepsOthers W' X ∧ Below w.heap.size W' X ∧ (((X.heap[w.heap.size]? = some (.cells zs t (0, 0)) ∧ X.heap[w.heap.size + 1]? = some (.cells (vals .u8 Z).toArray t (0, 0))) ∧ X.heap[W.heap.size]? = some (.cells #[cc] u (0, 0))) ∧ (∀ D ∈ ds, X.heap[D]? = some (.deferred (some [])))) ∧ Below w.heap.size w X := by
  intro X
  have b : Below w.heap.size W' X := ((Below.refl _ W').setCell (p := ⟨w.heap.size + 1, c, none⟩) (by simp) _).drew
  refine ⟨(KeepsOthers.setCell _ _ _).trans (KeepsOthers.drew _), b, ⟨⟨⟨?_, ?_⟩, ?_⟩, ?_⟩, hB.trans b⟩
  · exact q0.far (p := ⟨w.heap.size + 1, c, none⟩) (by simp) _
  · rw [← hZ]; exact q1.put c z
  · exact (Below.heap_setCell W' ⟨w.heap.size + 1, c, none⟩ _ W.heap.size (by simp; omega)).trans q2
  · intro D hD
    exact (KeepsOthers.setCell W' ⟨w.heap.size + 1, c, none⟩ (.int .u8 z)).same D _ (q3 D hD) rfl
set_option maxRecDepth 100000 in
set_option maxHeartbeats 4000000 in
theorem word_scores_in (n : Int) (w : World) (h : IsW n) (hT : TabB w) :
    CallsIn Fence.wide 6 Tryz.prog 132 #[.int .u32 n] w fun e w' => e = .returned (.agg (vals .u8 (scoresI n)).toArray) ∧ Below w.heap.size w w' := by
  refine callsIn_of_wp_marks Tryz.func132 rfl trivial ?_ rfl
  simp only [Tryz.ntmps132, List.size_toArray, List.length_cons, List.length_nil, Nat.reduceAdd, Nat.reduceSub, Array.replicate_succ, Array.replicate_zero, List.push_toArray, List.append_toArray, List.nil_append, List.cons_append]
  gi_wp2
  have HT := Lib.hid hT
  have HH := Lib.hid h
  have hTl := hT.lt
  clear hT h
  refine wpIn_loop (fun a' W => ∃ (c : Nat) (ds : List Nat) (u4 u5 u7 u8 u9 u10 u11 u12 u13 u14 u15 u16 u17 u18 u19 u20 u21 u22 u23 : Value), c ≤ 6 ∧ a' = { tmps := #[.int .u32 n, undef, .pointer (some ⟨w.heap.size, 0, none⟩), .pointer (some ⟨w.heap.size + 1, 0, none⟩), u4, u5, .int .i64 c, u7, u8, u9, u10, u11, u12, u13, u14, u15, u16, u17, u18, u19, u20, u21, u22, u23], defers := marksD ds } ∧
    Hid (Blk W w.heap.size 120 #[.int .u8 0, .int .u8 0, .int .u8 0, .int .u8 0, .int .u8 0, .int .u8 0]) ∧ Hid (Blk W (w.heap.size + 1) 120 (vals .u8 (partRow n c)).toArray) ∧ Hid (Below w.heap.size w W) ∧ w.heap.size + 2 ≤ W.heap.size ∧ Hid (ds.Nodup ∧ ∀ D ∈ ds, w.heap.size + 2 ≤ D) ∧ Hid (∀ D ∈ ds, W.heap[D]? = some (.deferred (some []))))
    (fun a' _ => 6 - (intOf (a'.tmps.getD 6 undef)).toNat) ?start ?round
  case start =>
    exact ⟨0, [], undef, undef, undef, undef, undef, undef, undef, undef, undef, undef, undef, undef, undef, undef, undef, undef, undef, undef, undef, by omega, rfl, Lib.hid ((Blk.new w _ _).alloc _), Lib.hid (Blk.new1 _ _ _ _), Lib.hid (((Below.refl _ w).alloc (Nat.le_refl _) _).alloc (by simp) _), by simp, Lib.hid ⟨List.nodup_nil, by simp⟩, Lib.hid (by simp)⟩
  case round =>
    rintro a' W ⟨c, ds, u4, u5, u7, u8, u9, u10, u11, u12, u13, u14, u15, u16, u17, u18, u19, u20, u21, u22, u23, hc, rfl, hq, hr, hb, hsz, hds, hdd⟩
    by_cases hlt : c < 6
    · obtain ⟨h0, h1⟩ := HH.out
      have hcr := colI_range n c
      obtain ⟨v, hv⟩ := nib_fin hcr.1 hcr.2
      obtain ⟨xs, hxs, hsum, hxl⟩ := col_places v
      have hTW := Lib.hid (HT.out.below hb.out hTl)
      have HV := Lib.hid hv
      gi_wp2_with (first
        | (refine ⟨trivial, ?_⟩; gi_at_call 131; refine (callsIn_wide.2 (word_column _ _ _ h0 h1 hlt)).mono ?_; rintro e w' ⟨rfl, rfl⟩; rw [HV.out])
        | (refine ⟨trivial, ?_⟩; gi_at_call 90; refine (places_in _ _ _).mono ?_; rintro e w' ⟨rfl, rfl⟩))
      have HX := Lib.hid hxs
      have HS := Lib.hid (show rowSum xs = scoreI n c from hsum.trans (by unfold scoreI; rw [hv]))
      clear hsum hxs hv
      have hB2 : Below w.heap.size w ((W.alloc (.cells #[.int .i64 c] 3)).alloc (.cells #[.int .u32 (v.val : Nat)] 58)) := (hb.out.alloc hb.out.size _).alloc (by have := hb.out.size; simp; omega) _
      have bN := Boxed.new (W.alloc (.cells #[.int .i64 c] 3)) 58 (.int .u32 (v.val : Nat))
      rw [World.size_alloc] at bN
      have bC := (Boxed.new W 3 (.int .i64 c)).alloc (.cells #[.int .u32 (v.val : Nat)] 58)
      have hz0 := partRow_at n c hlt
      have hlen := partRow_len n c
      obtain ⟨P0, hP0⟩ : ∃ P0, partRow n c = P0 := ⟨_, rfl⟩
      rw [hP0] at hz0 hlen hr
      have HP := Lib.hid hP0
      clear hP0
      refine wpIn_rangeFunc_ownF rfl (by omega) (gf := 127) (lb := #[.pointer (some ⟨W.heap.size + 1, 0, none⟩)]) rfl trivial (enters_of Tryz.func127 (by kernel_rfl) rfl)
        (placesA_stops (fun x : Fin 4 => x.val) 5 (by omega) (W.heap.size + 1) w.heap.size v.val (by omega) xs HX.out _ (by simp) (by simp; omega) hTl bN.cell (HT.out.below hB2 hTl)) belowK_t (belowK_b (by simp; omega)) (Below.refl _ _) (fun _ => rfl)
        (fun pre W' => (((W'.heap[w.heap.size]? = some (.cells #[.int .u8 0, .int .u8 0, .int .u8 0, .int .u8 0, .int .u8 0, .int .u8 0] 120 (0, 0)) ∧ W'.heap[w.heap.size + 1]? = some (.cells (vals .u8 (P0.set c (rowSum pre))).toArray 120 (0, 0))) ∧ W'.heap[W.heap.size]? = some (.cells #[.int .i64 c] 3 (0, 0))) ∧ (∀ D ∈ ds, W'.heap[D]? = some (.deferred (some [])))) ∧ Below w.heap.size w W')
        (fun _ _ _ => False)
        (((((ownFrom_at _ (by simp; omega)).and (ownFrom_at (fun pre => .cells (vals .u8 (P0.set c (rowSum pre))).toArray 120 (0, 0)) (by simp; omega))).and (ownFrom_at _ (by simp; omega))).and (ownFrom_all ds _ (fun D hD => by have := (Array.getElem?_eq_some_iff.1 (hdd.out D hD)).1; simp; omega))).and (ownFrom_below (Nat.le_refl _) (by simp; omega)))
        (fun _ _ _ _ _ hs _ _ => hs)
        ⟨⟨⟨⟨((hq.out.alloc _).alloc _), by
            rw [show P0.set c (rowSum []) = P0 by
              apply List.ext_getElem (by simp)
              intro i h1 h2
              rw [List.getElem_set]
              split
              · rename_i e; subst e
                have := hz0
                rw [List.getD_eq_getElem?_getD, List.getElem?_eq_getElem (by omega)] at this
                simpa [rowSum] using this.symm
              · rfl]
            exact ((hr.out.alloc _).alloc _)⟩, bC⟩, fun D hD => (((Below.refl _ W).alloc (Nat.le_refl _) _).alloc (by simp) _).block D (Array.getElem?_eq_some_iff.1 (hdd.out D hD)).1 |>.trans (hdd.out D hD)⟩, hB2⟩
        (fun x => { tmps := #[.int .u32 n, undef, .pointer (some ⟨w.heap.size, 0, none⟩), .pointer (some ⟨w.heap.size + 1, 0, none⟩), .pointer (some ⟨W.heap.size, 0, none⟩), .int .i64 (x.val : Nat), .int .i64 c, .bool true, .int .i64 c, .int .u32 n, .int .i64 c, .int .u32 (v.val : Nat), .func (.func 127) #[] #[.pointer (some ⟨W.heap.size + 1, 0, none⟩)], .int .i64 (x.val : Nat), u14, u15, u16, u17, u18, u19, u20, u21, u22, u23], defers := [] }) ?assign ?body ?done ?stop
      case assign =>
        intro l x W' K hK
        gi_wp2
        exact hK
      case body =>
        rintro l pre x W' ⟨⟨⟨⟨q0, q1⟩, q2⟩, q3⟩, hB⟩ hlt2
        have hmx : Tryz.prog.follows .mixedOrders = true := by kernel_rfl
        have hd : 1 ≤ 6 - 1 - 1 := by omega
        have hx4 := x.isLt
        have hwx : IntKind.u8.wrap ((x.val : Nat) : Int) = ((x.val : Nat) : Int) := by rw [IntKind.wrap_u8]; omega
        have Q0 : Blk W' w.heap.size 120 #[.int .u8 0, .int .u8 0, .int .u8 0, .int .u8 0, .int .u8 0, .int .u8 0] := q0
        have Q1 : Blk W' (w.heap.size + 1) 120 (vals .u8 (P0.set c (rowSum pre))).toArray := q1
        have Q2 : Boxed W' W.heap.size 3 (.int .i64 c) := q2
        have hcc := Q2.cell
        have hrd := rowSum_d pre
        have hc1 := Q1.at_ (j := c) (by simp; omega)
        rw [show (P0.set c (rowSum pre)).getD c 0 = rowSum pre by rw [List.getD_eq_getElem?_getD, List.getElem?_set_self (by omega)]; rfl] at hc1
        have hf1 := Q1.free c
        have HQ := Lib.hid Q1
        have hW : ∀ z, ((P0.set c (rowSum pre)).set c z) = P0.set c z := fun z => by rw [List.set_set]
        have hsn := rowSum_snoc pre x
        have HSN := Lib.hid hsn
        have HQ0 := Lib.hid Q0
        have HQ2 := Lib.hid Q2
        have HQ3 := Lib.hid q3
        have HBB := Lib.hid hB
        clear q0 q1 q2 q3 Q0 Q1 Q2 hB hsn bN bC hB2 hcr hxl hz0
        have HWW := Lib.hid hW
        clear hW
        generalize rowSum pre = V at *
        gi_wp2
        have HFIN := Lib.hid (score_fin (P := P0) (c := c) (z := xorI V (x.val : Int)) (Z := P0.set c (rowSum (pre ++ [x]))) HQ0.out HQ.out HQ2.out HQ3.out HBB.out (by rw [HWW.out, HSN.out]) hsz)
        have hxd : IsD ((x.val : Nat) : Int) := ⟨by omega, by omega⟩
        gi_region_with_o (refine ⟨trivial, ?_⟩; refine (CallsIn.inRound l (callsIn_wide.2 (digit_add _ _ _ hrd hxd))).mono ?_; rintro e w' ⟨rfl, rfl⟩)
        all_goals gi_wp2
        all_goals exact HFIN.out
      case done =>
        rintro D ys W' hD rfl ⟨⟨⟨⟨q0, q1⟩, q2⟩, q3⟩, hB⟩ hK
        rw [HS.out, ← HP.out, partRow_step n c hlt] at q1
        have Q0 := Lib.hid (show Blk W' w.heap.size 120 #[.int .u8 0, .int .u8 0, .int .u8 0, .int .u8 0, .int .u8 0, .int .u8 0] from q0)
        have Q1 := Lib.hid (show Blk W' (w.heap.size + 1) 120 (vals .u8 (partRow n (c + 1))).toArray from q1)
        have Q3 := Lib.hid q3
        have HBB := Lib.hid hB
        have HK := Lib.hid hK
        have hD2 : W.heap.size + 2 ≤ D := by simp at hD; omega
        clear q0 q1 q2 q3 hB hK bN bC hB2 hcr hxl hz0
        gi_wp2
        refine ⟨⟨c + 1, D :: ds, _, _, _, _, _, _, _, _, _, _, _, _, _, _, _, _, _, _, _, by omega, rfl, Q0, Q1, HBB, ?_, ?_, ?_⟩, ?_⟩
        · have := HBB.out.size
          have := (Array.getElem?_eq_some_iff.1 HK.out).1
          omega
        · refine Lib.hid ⟨List.nodup_cons.2 ⟨fun hm => ?_, hds.out.1⟩, ?_⟩
          · have := (Array.getElem?_eq_some_iff.1 (hdd.out D hm)).1
            omega
          · intro E hE
            rcases List.mem_cons.1 hE with rfl | hE
            · omega
            · exact hds.out.2 E hE
        · refine Lib.hid fun E hE => ?_
          rcases List.mem_cons.1 hE with rfl | hE
          · exact HK.out
          · exact Q3.out E hE
        · simp [intOf]; omega
      case stop =>
        rintro D c pre W _ _ h _
        exact h.elim
    · obtain rfl : c = 6 := by omega
      rw [partRow_all] at hr
      obtain ⟨s0, s1, s2, s3, s4, s5, hs6⟩ : ∃ s0 s1 s2 s3 s4 s5 : Int, scoresI n = [s0, s1, s2, s3, s4, s5] := ⟨_, _, _, _, _, _, rfl⟩
      rw [hs6] at hr
      have HS6 := Lib.hid hs6
      clear hs6
      obtain ⟨r0, r1, r2, r3, r4, r5, rf⟩ := Blk.six hr.out
      obtain ⟨q0, q1, q2, q3, q4, q5, qf⟩ := Blk.six hq.out
      have HR6 := Lib.hid hr.out
      have HQ6 := Lib.hid hq.out
      clear hq hr
      gi_wp2
      refine leaves_marks ds _ hds.out.1 (fun D hD => ?_) fun W' hs hg ho => ?_
      · have hne : D ≠ w.heap.size := by have := hds.out.2 D hD; omega
        rw [heap_far6 _ hne]; exact hdd.out D hD
      · have hn0 : w.heap.size ∉ ds := fun hm => by have := hds.out.2 _ hm; omega
        have Q : Blk W' w.heap.size 120 #[.int .u8 s0, .int .u8 s1, .int .u8 s2, .int .u8 s3, .int .u8 s4, .int .u8 s5] := (hg _ hn0).trans HQ6.out.set6
        have hB6 := below_set6 (g := w.heap.size) (x0 := .int .u8 s0) (x1 := .int .u8 s1) (x2 := .int .u8 s2) (x3 := .int .u8 s3) (x4 := .int .u8 s4) (x5 := .int .u8 s5) hb.out (Nat.le_refl _)
        refine ⟨_, results_c rfl rfl Q Tryz.underlying120 rfl rowInfo, ?_, ?_⟩
        · rw [HS6.out]; rfl
        · exact ⟨ho.1.trans hB6.os, ho.2.1.trans hB6.tape, ho.2.2.trans hB6.output, by rw [hs]; exact hB6.size, fun k hk => (hg k (fun hm => by have := hds.out.2 _ hm; omega)).trans (hB6.block k hk)⟩
theorem word_scores (n : Int) (w : World) (h : IsW n) (hT : TabB w) :
    Calls Tryz.prog 132 #[.int .u32 n] w fun e w' => e = .returned (.agg (vals .u8 (scoresI n)).toArray) ∧ Below w.heap.size w w' := callsIn_wide.1 (word_scores_in n w h hT)
end Go.Proofs.YtiodikflmijhkaaGreatDoor
end

section
namespace Go.Proofs.YtiodikflmijhkaaGreatDoor
open Go.RowKit
set_option linter.unusedVariables false

/-- All tables of chapter 3. -/
def Tab3 (w : World) : Prop := TabB w ∧ Tab2 w
def tab3G : Nat := max 1 tab2G
theorem Tab3.below {w w' : World} {B : Nat} (h : Tab3 w) (hb : Below B w w') (h0 : tab3G < B) : Tab3 w' := ⟨h.1.below hb (by unfold tab3G at h0; omega), h.2.below hb (by unfold tab3G at h0; omega)⟩
theorem Tab3.lt {w : World} (h : Tab3 w) : tab3G < w.heap.size := by have := h.1.lt; have := h.2.lt; unfold tab3G; omega
theorem Tab3.drewN {w : World} (h : Tab3 w) (k : Nat) : Tab3 (w.drewN k) := h
theorem Tab3.alloc {w : World} (h : Tab3 w) (o : Obj) : Tab3 (w.alloc o) := h.below ((Below.refl _ _).alloc (Nat.le_refl _) o) h.lt
theorem wrap_u16_in (n : Int) (h0 : 0 ≤ n) (h1 : n < 65536) : IntKind.u16.wrap n = n := by rw [IntKind.wrap_u16]; omega
theorem or_u16 (a b : Int) (h0 : 0 ≤ a) (h1 : a < 32768) (h2 : 0 ≤ b) (h3 : b < 32768) : bits .or .u16 a b = orI a b := by
  obtain ⟨A, rfl⟩ := Int.eq_ofNat_of_zero_le h0
  obtain ⟨B, rfl⟩ := Int.eq_ofNat_of_zero_le h2
  have hx : A ||| B < 2 ^ 15 := Nat.or_lt_two_pow (by omega) (by omega)
  show IntKind.u16.wrap ((BitVec.ofInt IntKind.u16.bits (A : Int) ||| BitVec.ofInt IntKind.u16.bits (B : Int)).toNat : Int) = _
  have hk : IntKind.u16.bits = 16 := rfl
  have hA : A % 2 ^ IntKind.u16.bits = A := Nat.mod_eq_of_lt (by rw [hk]; omega)
  have hB : B % 2 ^ IntKind.u16.bits = B := Nat.mod_eq_of_lt (by rw [hk]; omega)
  rw [BitVec.toNat_or, BitVec.ofInt_natCast, BitVec.ofInt_natCast, BitVec.toNat_ofNat, BitVec.toNat_ofNat, hA, hB]
  unfold orI
  rw [Int.toNat_natCast, Int.toNat_natCast]
  exact wrap_u16_in _ (by omega) (by omega)
theorem msgHead_le (w : Int) (i : Nat) (hi : i ≤ 3) : 0 ≤ msgHead w i ∧ msgHead w i ≤ 127 := by
  have h0 := scoreI_d w 0
  have h1 := scoreI_d w 1
  have h2 := scoreI_d w 2
  unfold IsD at h0 h1 h2
  have hor : ∀ a b : Int, 0 ≤ a → a ≤ 127 → 0 ≤ b → b ≤ 127 → 0 ≤ orI a b ∧ orI a b ≤ 127 := by
    intro a b ha ha' hb hb'
    refine ⟨orI_nonneg _ _, ?_⟩
    unfold orI
    have := Nat.or_lt_two_pow (n := 7) (x := a.toNat) (y := b.toNat) (by omega) (by omega)
    omega
  have e0 : 0 ≤ msgHead w 0 ∧ msgHead w 0 ≤ 127 := by simp only [msgHead]; omega
  have e1 : 0 ≤ msgHead w 1 ∧ msgHead w 1 ≤ 127 := hor _ _ e0.1 e0.2 (by simp; omega) (by simp; omega)
  have e2 : 0 ≤ msgHead w 2 ∧ msgHead w 2 ≤ 127 := hor _ _ e1.1 e1.2 (by simp; omega) (by simp; omega)
  have e3 : 0 ≤ msgHead w 3 ∧ msgHead w 3 ≤ 127 := hor _ _ e2.1 e2.2 (by simp; omega) (by simp; omega)
  match i, hi with
  | 0, _ => exact e0
  | 1, _ => exact e1
  | 2, _ => exact e2
  | 3, _ => exact e3
theorem word_scores6 (n : Int) (s0 s1 s2 s3 s4 s5 : Int) (w : World) (h : IsW n) (hT : TabB w) (hs : scoresI n = [s0, s1, s2, s3, s4, s5]) :
    Calls Tryz.prog 132 #[.int .u32 n] w fun e w' => e = .returned (.agg #[.int .u8 s0, .int .u8 s1, .int .u8 s2, .int .u8 s3, .int .u8 s4, .int .u8 s5]) ∧ Below w.heap.size w w' := by
  have := word_scores n w h hT
  rw [hs] at this
  exact this
set_option maxHeartbeats 2000000 in
theorem word_message (n : Int) (w : World) (h : IsW n) (hT : TabB w) :
    Calls Tryz.prog 97 #[.int .u32 n] w fun e w' => e = .returned (.int .u16 (messageM n)) ∧ Below w.heap.size w w' := by
  obtain ⟨h0, h1⟩ := h
  have hc0 := colI_range n 0
  have hwt := wt_range (colI n 0)
  obtain ⟨s0, s1, s2, s3, s4, s5, hs6, d0, d1, d2, d3, d4, d5⟩ := (scoresI_row n).six
  have HS6 := Lib.hid hs6
  clear hs6
  have HW0 := Lib.hid (show msgHead n 0 = wt (colI n 0) % 2 * 64 from rfl)
  have hsc : ∀ i : Nat, i < 6 → [s0, s1, s2, s3, s4, s5].getD i 0 = scoreI n i := fun i hi => by
    rw [← HS6.out]
    match i, hi with
    | 0, _ => rfl
    | 1, _ => rfl
    | 2, _ => rfl
    | 3, _ => rfl
    | 4, _ => rfl
    | 5, _ => rfl
  have HSC := Lib.hid hsc
  clear hsc
  generalize hW : wt (colI n 0) = W at *
  have HW := Lib.hid hW
  clear hW
  go_enter Tryz.func97, Tryz.ntmps97
  go_wp2_with (first
    | (go_at_call 131; refine (word_column _ 0 _ h0 h1 (by omega)).mono ?_; rintro e w' ⟨rfl, rfl⟩)
    | (go_at_call 96; refine (word_weight _ _ (by omega) (by omega)).mono ?_; rintro e w' ⟨he, k, rfl⟩; rw [HW.out] at he; subst he)
    | (go_at_call 132; refine (word_scores6 n s0 s1 s2 s3 s4 s5 _ ⟨h0, h1⟩ (TabB.drewN hT _) HS6.out).mono ?_; rintro e w1 ⟨rfl, b1⟩))
  have HB := Lib.hid (b1.size)
  refine wp_loop_rounds 4 ?_
  iterate 4 (rw [rounds_succ]; go_wp2_with fail)
  have hE : bits .or .u16 (bits .or .u16 (bits .or .u16 (W % 2 * 64) (IntKind.u16.wrap (IntKind.u16.wrap s0))) (IntKind.u16.wrap (IntKind.u16.wrap s1 * 4))) (IntKind.u16.wrap (IntKind.u16.wrap s2 * 16)) = msgHead n 3 := by
    have e0 := HSC.out 0 (by omega)
    have e1 := HSC.out 1 (by omega)
    have e2 := HSC.out 2 (by omega)
    simp only [List.getD_cons_zero, List.getD_cons_succ] at e0 e1 e2
    unfold IsD at d0 d1 d2
    have l0 := msgHead_le n 0 (by omega)
    have l1 := msgHead_le n 1 (by omega)
    have l2 := msgHead_le n 2 (by omega)
    have f1 : msgHead n 1 = orI (msgHead n 0) s0 := by rw [e0]; show orI _ (_ * 2 ^ 0) = _; simp
    have f2 : msgHead n 2 = orI (msgHead n 1) (s1 * 4) := by rw [e1]; rfl
    have f3 : msgHead n 3 = orI (msgHead n 2) (s2 * 16) := by rw [e2]; rfl
    rw [← HW0.out, wrap_u16_in s0 (by omega) (by omega), wrap_u16_in s0 (by omega) (by omega), wrap_u16_in s1 (by omega) (by omega), wrap_u16_in s2 (by omega) (by omega), wrap_u16_in (s1 * 4) (by omega) (by omega), wrap_u16_in (s2 * 16) (by omega) (by omega),
      or_u16 _ s0 l0.1 (by omega) (by omega) (by omega), ← f1, or_u16 _ (s1 * 4) l1.1 (by omega) (by omega) (by omega), ← f2, or_u16 _ (s2 * 16) l2.1 (by omega) (by omega) (by omega), ← f3]
  rw [hE]
  clear hE
  go_loop [3, 6] (fun v i => ∃ j : Nat, j ≤ 5 ∧ i = .int .i64 ((j : Int) + 1) ∧ v = .int .u16 (msgTail n j)) (fun _ i => 6 - (intOf i).toNat)
  case atStart => exact ⟨0, by omega, rfl, rfl⟩
  case round =>
    obtain ⟨j, hj, rfl, rfl⟩ := hrel
    have hr := msgTail_rng n j
    by_cases hlt : j < 5
    · have hp : (2 : Int) ^ (7 + j) ≤ 2048 := by
        obtain rfl | rfl | rfl | rfl | rfl : j = 0 ∨ j = 1 ∨ j = 2 ∨ j = 3 ∨ j = 4 := by omega
        all_goals decide
      have hp0 : (0 : Int) < 2 ^ (7 + j) := Int.pow_pos (by decide)
      have hor := or_u16 (msgTail n j) (2 ^ (7 + j)) hr.1 (by omega) (by omega) (by omega)
      have hwp : IntKind.u16.wrap (2 ^ (7 + j)) = 2 ^ (7 + j) := wrap_u16_in _ (by omega) (by omega)
      have h41 : (4 * ((j : Int) + 1)) = ((j : Int) + 1) * 4 := by omega
      rcases hb : (bitI n (((j : Int) + 1) * 4) == 1) with _ | _
      · have HS := Lib.hid (show msgTail n (j + 1) = msgTail n j by simp only [msgTail]; rw [h41, if_neg (by simpa using hb)])
        generalize msgTail n j = V at *
        have HBB := Lib.hid hb
        clear hb hor
        go_wp2_with (first
          | (go_at_call 82; refine (placeAt_calls _ _ _ (by omega) (by omega) (by omega) (by omega)).mono ?_; rintro e w' ⟨rfl, rfl⟩)
          | (go_at_call 110; refine (word_has _ _ _ h0 h1 (by omega) (by omega)).mono ?_; rintro e w' ⟨rfl, rfl⟩; rw [HBB.out]))
        go_round
        case rel => exact ⟨j + 1, by omega, by go_num, by rw [HS.out]⟩
        case measure => simp [intOf]; omega
      · have HS := Lib.hid (show msgTail n (j + 1) = orI (msgTail n j) (2 ^ (7 + j)) by simp only [msgTail]; rw [h41, if_pos (by simpa using hb)])
        generalize msgTail n j = V at *
        have HBB := Lib.hid hb
        have HOR := Lib.hid hor
        clear hb hor
        go_wp2_with (first
          | (go_at_call 82; refine (placeAt_calls _ _ _ (by omega) (by omega) (by omega) (by omega)).mono ?_; rintro e w' ⟨rfl, rfl⟩)
          | (go_at_call 110; refine (word_has _ _ _ h0 h1 (by omega) (by omega)).mono ?_; rintro e w' ⟨rfl, rfl⟩; rw [HBB.out]))
        go_round
        case rel => exact ⟨j + 1, by omega, by go_num, by rw [HS.out, HOR.out]⟩
        case measure => simp [intOf]; omega
    · obtain rfl : j = 5 := by omega
      have HM := Lib.hid (show msgTail n 5 = messageM n from rfl)
      generalize msgTail n 5 = V at *
      go_wp2
      go_ret
      exact ⟨ret_i HM.out, (below_drewN (Below.refl w.heap.size w) k).trans (b1.alloc b1.size _)⟩
theorem word_inCode (n : Int) (w : World) (h : IsW n) (hT : Tab3 w) :
    Calls Tryz.prog 50 #[.int .u32 n] w fun e w' => e = .returned (.bool (codeInB n)) ∧ Below w.heap.size w w' := by
  have hm := messageM_rng n
  have HC := Lib.hid (codeIn_back n h.1 h.2)
  go_enter Tryz.func50, Tryz.ntmps50
  go_wp2_with fail
  refine (word_message n _ h hT.1).mono ?_
  rintro e w1 ⟨rfl, b1⟩
  go_wp2_with fail
  refine (message_word _ _ hm (hT.2.below b1 hT.2.lt)).mono ?_
  rintro e w2 ⟨rfl, b2⟩
  go_wp2_with fail
  go_ret
  exact ⟨ret_b (by rw [HC.out]; rfl), b1.trans (b2.mono b1.size)⟩
end Go.Proofs.YtiodikflmijhkaaGreatDoor
end
