/- Joined texts: C222 C223. -/
import Derived.Test.YtiodikflmijhkaaGreatDoorJ33
import Derived.Test.YtiodikflmijhkaaGreatDoorJ13
section
namespace Go.Proofs.YtiodikflmijhkaaGreatDoor
open Go.RowKit
set_option linter.unusedVariables false
attribute [local irreducible] cN syn

theorem DrawLatticeMove_callsI (A : Option Addr) (c : Nat) (bs : List Int) (w : World) (hr : Rds w w.heap.size .u8 A bs) (hc : bs.length ≤ c) (hm : c ≤ maxLen) (hv : ∀ i, 0 ≤ bs.getD i 0 ∧ bs.getD i 0 ≤ 255) :
    Calls Tryz.prog 4 #[.slice A bs.length c] w fun e w' => ∃ (v v2 : Value) (xs ys : List Int), e = .returned (.tuple #[v, v2]) ∧ OwnI w' w.heap.size v xs ∧ xs.length ≤ 24 ∧ OwnI w' w.heap.size v2 ys ∧ ys.length ≤ 24 ∧ Below w.heap.size w w' := by
  go_enter Tryz.func4, Tryz.ntmps4
  go_wp2_with fail
  refine (l6Open_calls A c bs _ hr hc hm hv).mono ?_
  rintro e w1 ⟨g, rfl, hg, r1, b1⟩
  go_wp2_with fail
  refine (l92Vector_callsI g 0 _ r1 (by omega)).mono ?_
  rintro e w2 ⟨v, xs, q1, rfl, o2, hl, hq1, r2, g2⟩
  go_wp2_with fail
  refine (l92Perm_callsI g q1 _ r2 (by omega)).mono ?_
  rintro e w3 ⟨v2, ys, q2, rfl, o3, hl2, hq2, r3, g3⟩
  go_wp2_with fail
  go_ret2
  exact ⟨v, v2, xs, ys, rfl, (o2.grownG g3 r1.lt).weak b1.size, hl, o3.weak (Nat.le_trans b1.size g2.size), hl2, (b1.trans (grown_below g2 hg b1.size)).trans (grown_below g3 hg (Nat.le_trans b1.size g2.size))⟩
end Go.Proofs.YtiodikflmijhkaaGreatDoor
end

section
namespace Go.Proofs.YtiodikflmijhkaaGreatDoor
open Go.RowKit
set_option linter.unusedVariables false
attribute [local irreducible] cN syn

theorem append_ints {i0 : TypeInfo} (hi : (Tryz.prog).info? 3 = some i0) (hz0 : i0.zero = some (.int .i64 0)) (hz1 : i0.size = 1) (hz2 : i0.bytes = 8) {w W : World} {B : Nat} {v : Value} {xs : List Int} {ys : List Int} {c n : Nat} {ty : TypeId} {ad : Addr} (hown : OwnI w B v xs) (hlen : xs.length ≤ 1048576) (hn : ys.length = n) (hyl : ys.length ≤ 1048576) (hy0 : 0 < ys.length)
    (hnews : ∀ j u, (vals .i64 ys)[j]? = some u → w.cell? (ad.add j) = some u) {v' : Value}
    (hr : (Builtin.append_ #[23, 23] ty #[v, .slice (some ad) n c]).run Tryz.prog w = .ok v' W) : ∀ g, v'.ownBlock = some g → IntBk W g := by
  have zs : ∀ n, ∀ u ∈ Builtin.zeroCells (Value.int .i64 0).cells n, ∃ k m, u = .int k m := fun n u hu => by
    simp only [Builtin.zeroCells, Value.cells, Array.mem_map] at hu
    obtain ⟨i, _, rfl⟩ := hu
    exact ⟨.i64, 0, by simp [Nat.mod_one]⟩
  have vs : ∀ u ∈ vals .i64 xs, ∃ k m, u = .int k m := fun u hu => by
    simp only [vals, List.mem_map] at hu
    obtain ⟨y, _, rfl⟩ := hu
    exact ⟨_, _, rfl⟩
  subst hn
  have ws : ∀ u ∈ vals .i64 ys, ∃ k m, u = .int k m := fun u hu => by
    simp only [vals, List.mem_map] at hu
    obtain ⟨y, _, rfl⟩ := hu
    exact ⟨_, _, rfl⟩
  rcases hown.own.2 with ⟨rfl, h0⟩ | ⟨g, cap, cur, rfl, hbg, hg, hnc, hcm, hcs, htake⟩
  · have := run_append_nil (P := Tryz.prog) w 23 ty 3 i0 (.int .i64 0) Tryz.underlying23 hi hz0 ad ys.length c (vals .i64 ys) (by rw [vals_len, hz1]; simp) hnews (by omega) (by omega) (by rw [hz2]; omega)
    rw [this] at hr
    cases hr
    intro b hb
    cases hb
    refine ⟨_, _, _, heap_alloc_new w.drew _, fun u hu => ?_⟩
    rcases Array.mem_append.1 hu with h | h
    · exact ws u (by simpa using h)
    · exact zs _ u h
  · by_cases hroom : xs.length + ys.length ≤ cap
    · have := run_append_room (P := Tryz.prog) w 23 ty 3 i0 Tryz.underlying23 hi g xs.length cap cur hg ad ys.length c (vals .i64 ys) (by rw [vals_len, hz1]; simp) hnews (fun u hu => by obtain ⟨k, m, e⟩ := ws u hu; rw [e]; rfl) hroom (by rw [hz1, hcs]; simp [vals_len]; omega)
      rw [this] at hr
      cases hr
      intro b hb
      cases hb
      refine ⟨_, _, _, setRow_heap w g cur _ _ _ hg, fun u hu => ?_⟩
      obtain ⟨cs2, t2, f2, h1, h2⟩ := hown.int g rfl
      rw [hg] at h1
      cases h1
      simp only [List.mem_toArray, List.mem_append] at hu
      rcases hu with (h | h) | h
      · exact h2 u (Array.mem_toList_iff.1 (List.mem_of_mem_take h))
      · exact ws u h
      · exact h2 u (Array.mem_toList_iff.1 (List.mem_of_mem_drop h))
    · have holds : ∀ j u, (vals .i64 xs)[j]? = some u → w.cell? ((⟨g, 0, none⟩ : Addr).add j) = some u := World.ownsRow.cells hown.own (g := g) rfl
      have := run_append_grow (P := Tryz.prog) w 23 ty 3 i0 (.int .i64 0) Tryz.underlying23 hi hz0 ⟨g, 0, none⟩ xs.length cap (vals .i64 xs) (by rw [vals_len, hz1]; simp) holds ad ys.length c (vals .i64 ys) (by rw [vals_len, hz1]; simp) hnews (by omega) (by omega) (growslice_fits (by omega) (by rw [hz2]; omega))
      rw [this] at hr
      cases hr
      intro b hb
      cases hb
      refine ⟨_, _, _, heap_alloc_new w.drew _, fun u hu => ?_⟩
      rcases Array.mem_append.1 hu with h | h
      · rcases Array.mem_append.1 h with h | h
        · exact vs u (by simpa using h)
        · exact ws u (by simpa using h)
      · exact zs _ u h

theorem wpList_moreI {ops : Array Oper} {rest : List Oper} {o : Oper} {a : Act} {Q : Exit → Act → World → Prop} (hgd : o.guard = none) (s y : Operand)
    (ho : o.op = .call { callee := .builtin .append, args := #[s, y], argTypes := #[23, 23] })
    (w : World) (B : Nat) (v : Value) (xs ys : List Int) (n b c : Nat) (hs : a.eval s = v) (hn : ys.length = n) (hy : a.eval y = .slice (some ⟨b, 0, none⟩) n c)
    (hcell : ∀ j, j < ys.length → w.cell? ⟨b, j, none⟩ = some (.int .i64 (ys.getD j 0))) (hown : OwnI w B v xs) (hlen : xs.length ≤ 1048576) (hyl : ys.length ≤ 1048576) (hy0 : 0 < ys.length) (hB : B ≤ w.heap.size)
    (h : ∀ v' w', OwnI w' B v' (xs ++ ys) → Below B w w' → w.grownBy w' v.ownBlock → wpList Tryz.prog ops Q rest (a.put o.dst v') w') :
    wpList Tryz.prog ops Q (o :: rest) a w := by
  subst hn
  obtain ⟨i0, hi, hz0, hz1, hz2⟩ := info_parts intRow
  have hnews : ∀ j u, (vals .i64 ys)[j]? = some u → w.cell? ((⟨b, 0, none⟩ : Addr).add j) = some u := by
    intro j u hj
    have hjl : j < ys.length := by
      have := (List.getElem?_eq_some_iff.1 hj).1
      rwa [vals_len] at this
    have e := vals_get .i64 ys j hjl
    rw [e] at hj
    cases hj
    have := hcell j hjl
    have ea : (⟨b, 0, none⟩ : Addr).add j = ⟨b, j, none⟩ := by unfold Addr.add; split <;> simp_all
    rw [ea]
    exact this
  refine wpList_plain hgd fun _ hK => ?_
  obtain ⟨v', w', hr, h2, h3, _⟩ := run_append_own (P := Tryz.prog) w B 23 o.type 3 i0 (.int .i64 0) 1 8 Tryz.underlying23 hi hz0 hz1 hz2 rfl (by decide) v xs.length (vals .i64 xs)
    hown.own ⟨b, 0, none⟩ ys.length c (vals .i64 ys) (by rw [vals_len, Nat.mul_one]) hnews (fun u hu => by
      obtain ⟨x, _, rfl⟩ := List.mem_map.1 (show u ∈ ys.map (Value.int .i64) from hu)
      rfl) (by unfold maxLen; omega) (by omega) hB
  have hint := append_ints hi hz0 hz1 hz2 hown hlen rfl hyl hy0 hnews hr
  have hO : OwnI w' B v' (xs ++ ys) := ⟨by
    unfold Own
    rw [vals_append]
    simpa using h2, hint⟩
  have := h v' w' hO ((Below.refl B w).grown h3 hB (own_row_ge hown.own)) h3
  unfold Oper.wp execOp
  simp only [ho, resolve, invoke, builtin, Sem.run_bind, Sem.run_pure, Result.andThen_ok, List.map_toArray, List.map_cons, List.map_nil, hs, hy, hr]
  exact hK _ _ this
set_option maxHeartbeats 1000000 in
theorem clone_callsI (g : Nat) (xs : List Int) (w : World) (t : TypeId) (hg : w.heap[g]? = some (.cells (VL xs) t (0, 0))) (hl : xs.length = 24) :
    Calls Tryz.prog 46 #[.slice (some ⟨g, 0, none⟩) 24 24] w fun e w' => ∃ v, e = .returned v ∧ OwnI w' w.heap.size v xs ∧ Below w.heap.size w w' := by
  have HL := Lib.hid hl
  have HC := Lib.hid (fun (W : World) (h : Below w.heap.size w W) j (hj : j < xs.length) => show W.cell? ⟨g, j, none⟩ = some (.int .i64 (xs.getD j 0)) by
    rw [h.cell (show g < w.heap.size from (Array.getElem?_eq_some_iff.1 hg).1)]
    exact VL_at xs hj hg)
  have HE := Lib.hid (ownI_empty2 w w.heap.size (Nat.le_refl _))
  have HB := Lib.hid ((Below.refl w.heap.size w).alloc (Nat.le_refl _) (.cells #[] 3))
  have q22 : ∀ (w : World) (a : Option Addr) (n c : Nat), (binOp .eql 23 (.slice a n c) (.slice none 0 0)).run Tryz.prog w = .ok (.bool a.isNone) w := fun w a n c => run_eql_slice_nil w _ _ a n c Tryz.underlying23
  clear hg hl
  go_enter Tryz.func46, Tryz.ntmps46
  go_wp2_with (at_builtin; refine wpList_moreI rfl _ _ rfl _ w.heap.size (.slice (some ⟨w.heap.size, 0, none⟩) 0 0) [] xs 24 g 24 rfl HL.out rfl (HC.out _ HB.out) HE.out (by simp) (by rw [HL.out]; decide) (by rw [HL.out]; decide) (by simp) ?_; intro v2 w2 ho2 hb2 hg2; rw [List.nil_append] at ho2)
  go_ret
  exact ⟨_, rfl, ho2, HB.out.trans hb2⟩
set_option maxHeartbeats 1000000 in
theorem pmList_callsI (xs : List Int) (w : World) (hl : xs.length = 24) :
    Calls Tryz.prog 22 #[.agg (VL xs)] w fun e w' => ∃ v, e = .returned v ∧ OwnI w' w.heap.size v xs ∧ Below w.heap.size w w' := by
  have HB := Lib.hid ((Below.refl w.heap.size w).alloc (Nat.le_refl _) (.cells (VL xs) 39))
  have HC := Lib.hid (fun W (h : W = w.alloc (.cells (VL xs) 39)) => clone_callsI w.heap.size xs W 39 (by rw [h]; exact Blk.new w _ _) hl)
  clear hl
  generalize hV : VL xs = V at *
  clear hV
  go_enter Tryz.func22, Tryz.ntmps22
  go_wp2_with fail
  refine (HC.out _ rfl).mono ?_
  rintro e w2 ⟨v, rfl, o2, b2⟩
  go_wp2_with fail
  go_ret
  exact ⟨_, rfl, o2.weak HB.out.size, HB.out.trans (b2.mono HB.out.size)⟩
set_option maxHeartbeats 1000000 in
theorem iPermTurned_callsI (A : Option Addr) (c : Nat) (xs : List Int) (w : World) (ha : Rds w w.heap.size .i64 A xs) (hx : xs.length ≤ maxLen) :
    Calls Tryz.prog 8 #[.slice A xs.length c] w (GotLI w (plTurned xs).1 (plTurned xs).2) := by
  have HF := Lib.hid (permFrom_calls A c xs w ha hx)
  have HI := Lib.hid (pmInfoL (pL xs) (pL_len xs))
  have HSZ := Lib.hid (show (VL (pL xs)).size = 24 by rw [VL_size, pL_len])
  have HALL := Lib.hid (VL_all (pL xs))
  rcases hp : permB xs with _ | _
  · rw [show plTurned xs = ([], false) by simp [plTurned, hp]]
    rw [hp] at HF
    clear ha hx hp
    generalize xs.length = n at *
    generalize VL (pL xs) = V at *
    go_enter Tryz.func8, Tryz.ntmps8
    go_wp2_with fail
    refine HF.out.mono ?_
    rintro e w1 ⟨rfl, b1⟩
    have HN := Lib.hid (Blk.new w1 39 (VL z24))
    have HB := Lib.hid (b1.alloc b1.size (.cells (VL z24) 39))
    have hw1 := b1.size
    clear b1
    go_wp2_with (refine wpList_store_row rfl 39 _ _ rfl w1.heap.size V rfl rfl 39 (VL z24) HN.out HI.out (by rw [HSZ.out]; rfl) HALL.out ?_)
    go_ret2
    exact ⟨_, rfl, ⟨Own.nil_ _ _, fun g hg => by cases hg⟩, bel_row HB.out hw1⟩
  · rw [show plTurned xs = (intP (turnN (natP xs)), true) by simp [plTurned, hp]]
    have HTU := Lib.hid (fun W => turned_calls xs W hp)
    have HLI := Lib.hid (fun W => pmList_callsI (intP (turnN (natP xs))) W (by rw [intP_len, turnN_len]))
    rw [hp] at HF
    rw [pL_yes hp] at HF HI HSZ HALL
    clear ha hx hp
    generalize xs.length = n at *
    generalize intP (turnN (natP xs)) = T at *
    generalize VL xs = V at *
    go_enter Tryz.func8, Tryz.ntmps8
    go_wp2_with fail
    refine HF.out.mono ?_
    rintro e w1 ⟨rfl, b1⟩
    have HN := Lib.hid (Blk.new w1 39 (VL z24))
    have HB := Lib.hid (b1.alloc b1.size (.cells (VL z24) 39))
    have hw1 := b1.size
    clear b1
    have HN2 : ∀ W, W = (w1.alloc (.cells (VL z24) 39)).setRow w1.heap.size V → W.heap[w1.heap.size]? = some (.cells V 39 (0, 0)) := fun W h => by rw [h]; exact setRow_heap _ _ _ _ _ _ HN.out
    have HN2 := Lib.hid HN2
    go_wp2_with (first
      | (refine wpList_store_row rfl 39 _ _ rfl w1.heap.size V rfl rfl 39 (VL z24) HN.out HI.out (by rw [HSZ.out]; rfl) HALL.out ?_)
      | (refine wpList_load_row rfl 39 _ rfl w1.heap.size rfl 39 V (0, 0) _ (HN2.out _ rfl) Tryz.underlying39 rfl HI.out ?_))
    refine (HTU.out _).mono ?_
    rintro e w2 ⟨rfl, b2⟩
    have HB2 := Lib.hid ((bel_row (T := V) HB.out hw1).trans (b2.mono (bel_row (T := V) HB.out hw1).size))
    clear b2
    go_wp2_with fail
    refine (HLI.out _).mono ?_
    rintro e w3 ⟨v, rfl, o3, b3⟩
    go_wp2_with fail
    go_ret2
    exact ⟨_, rfl, o3.weak HB2.out.size, HB2.out.trans (b3.mono HB2.out.size)⟩
end Go.Proofs.YtiodikflmijhkaaGreatDoor
end
