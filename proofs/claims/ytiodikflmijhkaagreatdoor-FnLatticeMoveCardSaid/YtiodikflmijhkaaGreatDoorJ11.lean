/- Joined texts: Q3 C22. -/
import Derived.Test.YtiodikflmijhkaaGreatDoorJ07
import Derived.Test.YtiodikflmijhkaaGreatDoorJ01
import Derived.Test.YtiodikflmijhkaaGreatDoorJ00
import Derived.Deep.RegionHeld3
import Derived.Test.YtiodikflmijhkaaGreatDoorJ08
section
namespace Go.Proofs.YtiodikflmijhkaaGreatDoor
open Go.RowKit
set_option linter.unusedVariables false

theorem bit_pow (p q : Int) (hp : 0 ≤ p) (hq : 0 ≤ q) : bitI (powI p) q = if q = p then 1 else 0 := by
  obtain ⟨m, rfl⟩ := Int.eq_ofNat_of_zero_le hp
  obtain ⟨n, rfl⟩ := Int.eq_ofNat_of_zero_le hq
  have e : powI (m : Int) = ((2 ^ m : Nat) : Int) := by unfold powI; simp
  rw [e, bitI_nat, Nat.testBit_two_pow]
  by_cases h : m = n
  · subst h; simp
  · have h1 : ¬ ((n : Int) = (m : Int)) := by omega
    simp [h, h1]
theorem bit_xor (a b q : Int) (ha : 0 ≤ a) (hb : 0 ≤ b) (hq : 0 ≤ q) : bitI (xorI a b) q = if bitI a q = bitI b q then 0 else 1 := by
  obtain ⟨A, rfl⟩ := Int.eq_ofNat_of_zero_le ha
  obtain ⟨B, rfl⟩ := Int.eq_ofNat_of_zero_le hb
  obtain ⟨n, rfl⟩ := Int.eq_ofNat_of_zero_le hq
  unfold xorI
  rw [bitI_nat, bitI_nat, bitI_nat, Int.toNat_natCast, Int.toNat_natCast, Nat.testBit_xor]
  cases A.testBit n <;> cases B.testBit n <;> simp
theorem bit_add (t p q : Int) (ht : 0 ≤ t) (hp : 0 ≤ p) (hq : 0 ≤ q) (h : bitI t p = 0) : bitI (t + powI p) q = if q = p then 1 else bitI t q := by
  rw [← xor_pow t p ht hp h, bit_xor t (powI p) q ht (Int.le_of_lt (powI_pos p)) hq, bit_pow p q hp hq]
  by_cases e : q = p
  · subst e; simp [h]
  · simp only [e, if_false]
    rcases bitI_01 t q with h | h <;> simp [h]

theorem IsRow.bytes {w : World} {a : Option Addr} {len cap : Nat} {zs : List Int} (h : IsRow .u8 w a len cap zs) :
    ∃ bs : List Int, bs.length = len ∧ Rds w w.heap.size .u8 a bs ∧ bs.length ≤ cap ∧ cap ≤ maxLen ∧ ∀ i, 0 ≤ bs.getD i 0 ∧ bs.getD i 0 ≤ 255 := by
  obtain ⟨h1, h2, h3⟩ := h.rds
  refine ⟨zs.take len, h2, h1, ?_, ?_, ?_⟩
  · rcases h with ⟨rfl, rfl, rfl, rfl⟩ | ⟨x, rfl, h1, _⟩
    · simp
    · simp; omega
  · rcases h with ⟨rfl, rfl, rfl, rfl⟩ | ⟨x, rfl, _, h2, _⟩
    · simp
    · exact h2
  · intro i
    by_cases hi : i < (zs.take len).length
    · have hm : (zs.take len).getD i 0 ∈ zs.take len := by
        rw [List.getD_eq_getElem?_getD, List.getElem?_eq_getElem hi]
        exact List.getElem_mem hi
      have := h3 _ hm
      exact bounds_u8 this
    · rw [List.getD_eq_getElem?_getD, List.getElem?_eq_none (by omega)]; simp

end Go.Proofs.YtiodikflmijhkaaGreatDoor
/- Marking a list and asking whether it is held; the model's list of places. -/
namespace Go.Proofs.YtiodikflmijhkaaGreatDoor
open Go.RowKit
set_option linter.unusedVariables false

def marks (k : Int) (n : Nat) : List Int := (List.range n).map fun (i : Nat) => k + (i : Int)
theorem marks_len (k : Int) (n : Nat) : (marks k n).length = n := by simp [marks]
theorem marks_step (k : Int) (xs : List Int) (j : Nat) (h : j < xs.length) : (marks k j ++ xs.drop j).set j (k + j) = marks k (j + 1) ++ xs.drop (j + 1) := by
  rw [List.set_append_right _ _ (by rw [marks_len]; omega), marks_len, Nat.sub_self]
  have e : xs.drop j = xs[j] :: xs.drop (j + 1) := by rw [List.drop_eq_getElem_cons h]
  rw [e, List.set_cons_zero]
  simp [marks, List.range_succ]
theorem own_at {w : World} {B : Nat} {A : Option Addr} {n c : Nat} {xs : List Int} (h : Own w B (.slice A n c) xs) (hp : 0 < n) : ∃ g, A = some ⟨g, 0, none⟩ ∧ B ≤ g ∧ g < w.heap.size := by
  rcases h.form with ⟨h1, _⟩ | ⟨g, cap, h1, h2, h3, _⟩
  · simp only [Value.slice.injEq] at h1; omega
  · simp only [Value.slice.injEq] at h1
    exact ⟨g, h1.1, h2, h3⟩
theorem own_empty (w : World) (B : Nat) (hB : B ≤ w.heap.size) : Own (w.alloc (.cells #[] 3)) B (.slice (some ⟨w.heap.size, 0, none⟩) 0 0) [] :=
  ⟨rfl, .inr ⟨w.heap.size, 0, #[], rfl, hB, heap_alloc_new w _, by simp, by unfold maxLen; omega, by simp, by simp [vals]⟩⟩
def plNI (W N : Nat) : List Int := (plN W N).map fun (i : Nat) => (i : Int)
theorem plNI_succ (W N : Nat) : plNI W (N + 1) = plNI W N ++ if W.testBit N then [(N : Int)] else [] := by
  unfold plNI
  rw [plN_succ, List.map_append]
  cases W.testBit N <;> simp
theorem plNI_len (W N : Nat) : (plNI W N).length ≤ N := by
  unfold plNI plN
  have := List.length_filter_le (fun i => W.testBit i) (List.range N)
  simpa using this
set_option maxHeartbeats 400000 in
theorem l1Places_calls (W : Nat) (w : World) :
    Calls Tryz.prog 56 #[.int .i64 W] w fun e w' => ∃ v, e = .returned v ∧ Own w' w.heap.size v (plI W) ∧ Below w.heap.size w w' := by
  have HO := Lib.hid (own_empty w w.heap.size (Nat.le_refl _))
  go_enter Tryz.func56, Tryz.ntmps56
  go_wp2
  go_loopw [3, 4] (fun v i wr => ∃ k : Nat, k ≤ 24 ∧ i = .int .i64 k ∧ Hid (Own wr w.heap.size v (plNI W k)) ∧ Hid (Below w.heap.size w wr)) (fun _ i _ => 24 - (intOf i).toNat)
  case atStart => exact ⟨0, by omega, rfl, HO, Lib.hid ((Below.refl _ _).alloc (Nat.le_refl _) _)⟩
  case round =>
    obtain ⟨k, hk, rfl, ho, hb⟩ := hrel
    clear HO
    by_cases hlt : k < 24
    · have hs := plNI_succ W k
      have hl := plNI_len W k
      have hbit := bitI_nat W k
      cases hB : W.testBit k
      · rw [hB] at hs hbit
        have hbb : (bitI (W : Int) (k : Int) == 1) = false := by rw [hbit]; rfl
        have HS := Lib.hid (show plNI W (k + 1) = plNI W k by rw [hs]; simp)
        clear hs hbit hB
        go_wp2_with (go_at_call 45; refine (l1Bit_calls _ _ _ (by omega) (by omega)).mono ?_; rintro e w' ⟨rfl, rfl⟩)
        go_roundw
        case rel => exact ⟨k + 1, by omega, by go_num, by rw [HS.out]; exact ho, hb⟩
        case measure => simp [intOf]; omega
      · rw [hB] at hs hbit
        have hbb : (bitI (W : Int) (k : Int) == 1) = true := by rw [hbit]; rfl
        have HS := Lib.hid (show plNI W (k + 1) = plNI W k ++ [(k : Int)] by rw [hs]; simp)
        clear hs hbit hB
        go_wp2_with (first
          | (go_at_call 45; refine (l1Bit_calls _ _ _ (by omega) (by omega)).mono ?_; rintro e w' ⟨rfl, rfl⟩)
          | (at_builtin; refine wpList_push rfl _ _ rfl wr w.heap.size _ _ _ _ rfl rfl (by exact ho.out) (by omega) hb.out.size ?_; intro v2 w2 ho2 hb2 _))
        rw [← HS.out] at ho2
        go_roundw
        case rel => exact ⟨k + 1, by omega, by go_num, Lib.hid ho2, Lib.hid (hb.out.trans hb2)⟩
        case measure => simp [intOf]; omega
    · obtain rfl : k = 24 := by omega
      go_wp2
      go_ret
      exact ⟨_, rfl, ho.out, hb.out⟩
end Go.Proofs.YtiodikflmijhkaaGreatDoor
/- Drawing different places. -/
namespace Go.Proofs.YtiodikflmijhkaaGreatDoor
open Go.RowKit
set_option linter.unusedVariables false

theorem wtTo_addp (t p : Int) (ht : 0 ≤ t) (hp : 0 ≤ p) (h : bitI t p = 0) (n : Nat) : wtTo (t + powI p) n = wtTo t n + if p < n then 1 else 0 := by
  induction n with
  | zero => simp only [wtTo]; rw [if_neg (by omega)]; rfl
  | succ n ih =>
    simp only [wtTo]
    rw [ih, bit_add t p n ht hp (by omega) h]
    by_cases e : (n : Int) = p
    · subst e; simp [h]; omega
    · by_cases h2 : p < n
      · rw [if_pos h2, if_neg e, if_pos (by omega)]; omega
      · rw [if_neg h2, if_neg e, if_neg (by omega)]; omega
theorem wt_addp (t p : Int) (ht : 0 ≤ t) (hp : 0 ≤ p) (hp2 : p ≤ 23) (h : bitI t p = 0) : wt (t + powI p) = wt t + 1 := by
  unfold wt; rw [wtTo_addp t p ht hp h 24, if_pos (by omega)]
theorem free_place (t : Int) (h : wt t < 24) : ∃ d : Nat, d < 24 ∧ bitI t d = 0 := by
  apply Classical.byContradiction
  intro hn
  have hall : ∀ d : Nat, d < 24 → bitI t d = 1 := fun d hd => by
    rcases bitI_01 t d with h0 | h1
    · exact absurd ⟨d, hd, h0⟩ hn
    · exact h1
  have key : ∀ k : Nat, k ≤ 24 → wtTo t k = k := by
    intro k
    induction k with
    | zero => intro _; rfl
    | succ k ih => intro hk; simp only [wtTo]; rw [ih (by omega), hall k (by omega)]; omega
  have := key 24 (by omega)
  unfold wt at h; omega

/-- A row of the call's own lies as it lay where only a block below it was written. -/
theorem Own.grownG {w w' : World} {B g : Nat} {v : Value} {xs : List Int} (h : Own w B v xs) (hg : w.grownBy w' (some g)) (hB : g < B) : Own w' B v xs := by
  refine ⟨h.1, ?_⟩
  rcases h.2 with h1 | ⟨b, cap, cur, h1, h2, h3, h4⟩
  · exact .inl h1
  · exact .inr ⟨b, cap, cur, h1, h2, (hg.block b (Array.getElem?_eq_some_iff.1 h3).1 (by simp; omega)).trans h3, h4⟩
theorem grown_then_below {w w1 w2 : World} {row : Option Nat} (h : w.grownBy w1 row) (hb : Below w.heap.size w1 w2) : w.grownBy w2 row :=
  ⟨hb.os.trans h.os, hb.tape.trans h.tape, hb.output.trans h.output, Nat.le_trans h.size hb.size, fun k hk hne => (hb.block k hk).trans (h.block k hk hne)⟩
theorem free_step (T p : Int) (d : Nat) (hd : d < 24) (hb : bitI T d = 0) (h : bitI T p = 1) (p0 : 0 ≤ p) (p1 : p ≤ 23) : (((d : Int) + 24 - (p + 1) % 24).toNat) % 24 < (((d : Int) + 24 - p).toNat) % 24 := by
  have : p ≠ d := by rintro rfl; omega
  omega
theorem own_lt {w : World} {B b : Nat} {n c : Nat} {xs : List Int} (h : Own w B (.slice (some ⟨b, 0, none⟩) n c) xs) : b < w.heap.size := by
  rcases h.form with ⟨h1, _⟩ | ⟨g, cap, h1, h2, h3, _⟩
  · simp at h1
  · simp only [Value.slice.injEq, Option.some.injEq, Addr.mk.injEq] at h1
    omega
theorem pick3 (yn z : Int) (h0 : 0 ≤ yn) (h1 : yn ≤ 23) (z0 : 0 ≤ z) (z1 : z < 3) : ∃ Y : Int, (#[Value.int .i64 24, .int .i64 (-1), .int .i64 yn] : Array Value)[z.toNat]? = some (.int .i64 Y) ∧ (∀ h : z.toNat < [Value.int .i64 24, .int .i64 (-1), .int .i64 yn].length, [Value.int .i64 24, .int .i64 (-1), .int .i64 yn][z.toNat]'h = .int .i64 Y) ∧ -1 ≤ Y ∧ Y ≤ 24 := by
  have : z = 0 ∨ z = 1 ∨ z = 2 := by omega
  rcases this with rfl | rfl | rfl
  · exact ⟨24, rfl, fun _ => rfl, by omega, by omega⟩
  · exact ⟨-1, rfl, fun _ => rfl, by omega, by omega⟩
  · exact ⟨yn, rfl, fun _ => rfl, by omega, by omega⟩
theorem built_cell {w1 w2 : World} {cs : Array Value} {t : TypeId} {g i : Nat} {Y : Value} (hg : (World.drew (w1.alloc (.cells cs t))).grownBy w2 (some g)) (h : cs[i]? = some Y) (hlt : g < w1.heap.size) : w2.cell? ⟨w1.heap.size, i, none⟩ = some Y := by
  have hn : (World.drew (w1.alloc (.cells cs t))).cell? ⟨w1.heap.size, i, none⟩ = some Y := cell_new w1 cs t i Y h
  rw [World.cell?_of_block (hg.block w1.heap.size (by show _ < (w1.alloc _).heap.size; simp) (by simp; omega))]
  exact hn
theorem grown_drew {w w' : World} {row : Option Nat} (h : w.grownBy w' row) : w.grownBy w'.drew row := ⟨h.os, h.tape, h.output, h.size, h.block⟩
theorem pick_after (g q b c : Nat) (w W : World) (G0 : w.grownBy W (some g)) (xs : List Int) (B : Nat) (hg : g < B) (ho : Own W B (.slice (some ⟨b, 0, none⟩) xs.length c) xs) (hr : Rd W g q) (m : Nat) (hm : m < xs.length) (yn : Int) (hy : xs.getD m 0 = yn) (h0 : 0 ≤ yn) (h1 : yn ≤ 23) (hq : q ≤ 1048576) :
    Calls Tryz.prog 26 #[.pointer (some ⟨g, 0, none⟩), .int .i64 3] W fun e w2 => ∃ z Y : Int, e = .returned (.int .i64 z) ∧ 0 ≤ z ∧ z < 3 ∧ (#[Value.int .i64 24, .int .i64 (-1), .int .i64 yn] : Array Value)[z.toNat]? = some (.int .i64 Y) ∧ (∀ h : z.toNat < [Value.int .i64 24, .int .i64 (-1), .int .i64 yn].length, [Value.int .i64 24, .int .i64 (-1), .int .i64 yn][z.toNat]'h = .int .i64 Y) ∧ -1 ≤ Y ∧ Y ≤ 24 ∧
      w2.cell? ⟨b, m, none⟩ = some (.int .i64 yn) ∧ w2.cell? ⟨b, 0, none⟩ = some (.int .i64 (xs.getD 0 0)) ∧ w2.frozen? ⟨b, 0, none⟩ = false ∧ b < w2.heap.size ∧ Hid (Own w2 B (.slice (some ⟨b, 0, none⟩) xs.length c) xs) ∧ Hid (Rd w2 g (q + 1)) ∧ Hid (W.grownBy w2 (some g)) ∧ Hid (w.grownBy w2 (some g)) := by
  refine (pick_calls g q 3 W hr hq (by omega) (by omega)).mono ?_
  rintro e w2 ⟨z, rfl, za, zb, r2, g2⟩
  obtain ⟨Y, hY, hY', Y0, Y1⟩ := pick3 yn z h0 h1 za zb
  have o2 := ho.grownG g2 hg
  have cn := o2.cell (j := m) hm
  rw [hy] at cn
  exact ⟨z, Y, rfl, za, zb, hY, hY', Y0, Y1, cn, o2.cell (by omega), o2.free 0, own_lt o2, o2, r2, g2, grown_trans G0 g2⟩
/-- What drawing places leaves: a list of so many numbers, in memory of its own; the reader has gone on. -/
def PlacesDrawn (g q : Nat) (n : Int) (w : World) (e : Ending) (w' : World) : Prop := ∃ (v : Value) (xs : List Int) (q' : Nat), e = .returned v ∧ Own w' w.heap.size v xs ∧ (xs.length : Int) = n ∧
      (∀ x ∈ xs, -1 ≤ x ∧ x ≤ 24) ∧ q' ≤ q + 30 ∧ Rd w' g q' ∧ w.grownBy w' (some g)
theorem drawn_end {g q q2 b c : Nat} {n : Int} {w w2 : World} {xs : List Int} {Y : Int} (hg : g < w.heap.size) (hb : w.heap.size ≤ b) (o2 : Own w2 w.heap.size (.slice (some ⟨b, 0, none⟩) xs.length c) xs) (r2 : Rd w2 g q2) (hq : q2 ≤ q + 30)
    (G : w.grownBy w2 (some g)) (hn : (xs.length : Int) = n) (hx : ∀ x ∈ xs, 0 ≤ x ∧ x ≤ 23) (Y0 : -1 ≤ Y) (Y1 : Y ≤ 24) :
    PlacesDrawn g q n w (.returned (.slice (some ⟨b, 0, none⟩) xs.length c)) (w2.setCell ⟨b, 0, none⟩ (.int .i64 Y)) := by
  refine ⟨_, xs.set 0 Y, q2, rfl, o2.set 0 Y, by rw [List.length_set]; exact hn, ?_, hq, r2.keep ((Below.refl _ _).setCell (p := ⟨b, 0, none⟩) (by show g + 1 ≤ b; omega) _), grown_then_below G ((Below.refl _ _).setCell (p := ⟨b, 0, none⟩) hb _)⟩
  intro x hm
  rcases List.mem_or_eq_of_mem_set hm with h | h
  · have := hx x h; omega
  · subst h; exact ⟨Y0, Y1⟩
theorem PlacesDrawn.alloc {g q : Nat} {n : Int} {w w' : World} {e : Ending} (h : PlacesDrawn g q n w e w') (o : Obj) : PlacesDrawn g q n w e (w'.alloc o) := by
  obtain ⟨v, xs, q', h1, h2, h3, h4, h5, h6, h7⟩ := h
  exact ⟨v, xs, q', h1, h2.alloc o, h3, h4, h5, h6.below ((Below.refl _ _).alloc (Nat.le_refl _) _), grown_then_below h7 ((Below.refl _ _).alloc h7.size _)⟩
set_option maxHeartbeats 1000000 in
theorem l91Places_calls (g q : Nat) (n : Int) (w : World) (h : Rd w g q) (hq : q ≤ 800000) (h0 : 0 ≤ n) (h1 : n ≤ 24) :
    Calls Tryz.prog 36 #[.pointer (some ⟨g, 0, none⟩), .int .i64 n] w (PlacesDrawn g q n w) := by
  have hg := h.lt
  have HO := Lib.hid (own_empty w w.heap.size (Nat.le_refl _))
  have HR := Lib.hid (h.below ((Below.refl w.heap.size w).alloc (Nat.le_refl _) (.cells #[] 3)))
  have HG := Lib.hid (below_grown ((Below.refl w.heap.size w).alloc (Nat.le_refl _) (.cells #[] 3)) (some g))
  clear h
  go_enter Tryz.func36, Tryz.ntmps36
  go_wp2
  go_loopw [5, 6] (fun v t wr => ∃ (T : Int) (xs : List Int), (xs.length : Int) ≤ n ∧ t = .int .i64 T ∧ 0 ≤ T ∧ T ≤ 16777215 ∧ wt T = xs.length ∧ Hid (∀ x ∈ xs, 0 ≤ x ∧ x ≤ 23) ∧
      Hid (Own wr w.heap.size v xs) ∧ Hid (Rd wr g (q + xs.length)) ∧ Hid (w.grownBy wr (some g))) (fun _ t _ => 24 - (wt (intOf t)).toNat)
  case atStart => exact ⟨0, [], by simp; omega, rfl, by omega, by omega, by decide, Lib.hid (by simp), HO, HR, HG⟩
  case round =>
    obtain ⟨T, xs, hl, rfl, hT0, hT1, hwt, hxs, ho, hr, hgr⟩ := hrel
    by_cases hlt : (xs.length : Int) < n
    · clear HO HR HG
      obtain ⟨d, hd, hdb⟩ := free_place T (by omega)
      have HD := Lib.hid hdb
      have HWT := Lib.hid hwt
      clear hdb hwt
      obtain ⟨A, c, rfl⟩ := ho.out.slice
      go_wp2_with fail
      refine (pick_calls g _ 24 _ hr.out (by omega) (by omega) (by omega)).mono ?_
      rintro e w1 ⟨p0, rfl, p0a, p0b, r1, g1⟩
      have ho1 := Lib.hid (ho.out.grownG g1 hg)
      have hr1 := Lib.hid r1
      have hgr1 := Lib.hid (grown_trans hgr.out g1)
      clear ho hr hgr r1 g1
      go_wp2_with fail
      go_loop [7] (fun u => ∃ p : Int, u = .int .i64 p ∧ 0 ≤ p ∧ p ≤ 23) (fun u => (((d : Int) + 24 - intOf u).toNat) % 24)
      case atStart => exact ⟨p0, rfl, p0a, by omega⟩
      case round =>
        obtain ⟨p, rfl, pa, pb⟩ := hrel
        clear p0a p0b
        have hsz : w.heap.size ≤ w1.heap.size := hgr1.out.size
        rcases bitI_01 T p with hb | hb
        · have hr := addPl_range T p hT0 hT1 pa pb hb
          have hq := pow_val p pa pb
          have HW := Lib.hid (wrap_pow T p hr.1 hr.2 hq.1 hq.2)
          have hbb : (bitI T p == 1) = false := by rw [hb]; rfl
          have HT := Lib.hid (wt_addp T p hT0 pa pb hb)
          clear hb hq
          go_wp2_with (first
            | (go_at_call 45; refine (l1Bit_calls _ _ _ (by omega) (by omega)).mono ?_; rintro e w' ⟨rfl, rfl⟩)
            | (at_builtin; refine wpList_push rfl _ _ rfl w1 w.heap.size _ _ _ _ rfl rfl (by exact ho1.out) (by omega) hsz ?_; intro v2 w2 ho2 hb2 _))
          have hl2 : ((xs ++ [p]).length : Int) = (xs.length : Int) + 1 := by simp
          have HR2 := Lib.hid (hr1.out.keep (hb2.mono (by omega)))
          have HG2 := Lib.hid (grown_then_below hgr1.out hb2)
          have HX2 : Hid (∀ x ∈ xs ++ [p], 0 ≤ x ∧ x ≤ 23) := by
            intro x hx
            rcases List.mem_append.1 hx with h | h
            · exact hxs.out x h
            · simp at h; subst h; exact ⟨pa, pb⟩
          go_roundw
          case rel => exact ⟨T + powI p, xs ++ [p], by omega, by rw [HW.out], hr.1, hr.2, by rw [HT.out, HWT.out, hl2], HX2, Lib.hid ho2, by rw [List.length_append, List.length_singleton]; exact HR2, HG2⟩
          case measure => simp only [intOf]; rw [HW.out, HT.out, HWT.out]; omega
        · have hbb : (bitI T p == 1) = true := by rw [hb]; rfl
          have HM := Lib.hid (free_step T p d hd HD.out hb pa pb)
          clear hb
          go_wp2_with (go_at_call 45; refine (l1Bit_calls _ _ _ (by omega) (by omega)).mono ?_; rintro e w' ⟨rfl, rfl⟩)
          go_round
          case rel => exact ⟨(p + 1) % 24, rfl, by omega, by omega⟩
          case measure => simp only [intOf]; exact HM.out
    · have hl' : (xs.length : Int) = n := by omega
      have hle : xs.length ≤ 24 := by omega
      clear HO HR HG
      obtain ⟨A, c, rfl⟩ := ho.out.slice
      by_cases hz : n = 0
      · subst hz
        go_wp2
        go_ret
        exact ⟨_, xs, _, rfl, ho.out, hl', fun x hx => by have := hxs.out x hx; omega, by omega, hr.out, hgr.out⟩
      · have hn0 : 0 < n := by omega
        go_wp2_with fail
        refine (pick_calls g _ 20 _ hr.out (by omega) (by omega) (by omega)).mono ?_
        rintro e w1 ⟨z, rfl, za, zb, r1, g1⟩
        have ho1 := Lib.hid (ho.out.grownG g1 hg)
        have hr1 := Lib.hid r1
        have hgr1 := Lib.hid (grown_trans hgr.out g1)
        clear ho hr hgr r1 g1
        by_cases hz0 : z = 0
        · subst hz0
          obtain ⟨b, rfl, hb1, hb2⟩ := own_at ho1.out (by omega)
          go_wp2_with fail
          obtain ⟨m, rfl⟩ : ∃ m : Nat, n = (m : Int) + 1 := ⟨n.toNat - 1, by omega⟩
          have c0 := ho1.out.cell (j := 0) (by omega)
          have cn := ho1.out.cell (j := m) (by omega)
          have f0 := ho1.out.free 0
          have i1 : (m : Int) < xs.length := by omega
          have hyn : 0 ≤ xs.getD m 0 ∧ xs.getD m 0 ≤ 23 := by
            rw [List.getD_eq_getElem?_getD, List.getElem?_eq_getElem (by omega)]
            exact hxs.out _ (List.getElem_mem _)
          obtain ⟨yn0, yn1⟩ := hyn
          generalize hy : xs.getD m 0 = yn at *
          have HY := Lib.hid hy
          clear hl' hy
          have hwr : IntKind.i64.wrap (m : Int) = m := by rw [IntKind.wrap_i64]; omega
          have ra := Lib.hid (hr1.out.below ((Below.refl w1.heap.size w1).alloc (Nat.le_refl _) (.cells #[.int .i64 24, .int .i64 (-1), .int .i64 yn] 3)))
          have oa := Lib.hid (ho1.out.alloc (.cells #[.int .i64 24, .int .i64 (-1), .int .i64 yn] 3))
          have hsz : g < w1.heap.size := hr1.out.lt
          have ga := Lib.hid (grown_drew (grown_then_below hgr1.out ((Below.refl _ _).alloc hgr1.out.size (.cells #[.int .i64 24, .int .i64 (-1), .int .i64 yn] 3))))
          have gb := Lib.hid (grown_drew hgr1.out)
          go_region_with (go_at_call 26; first
            | (refine (pick_after g (q + xs.length + 1) b c w (World.drew (w1.alloc _)) ga.out xs w.heap.size hg oa.out ra.out m (by omega) yn HY.out yn0 yn1 (by omega)).mono ?_; rintro e w2 ⟨z, Y, rfl, za, zb, hY, hY', Y0, Y1, cn2, c02, f2, lb2, o2, r2, g2, G2⟩; have cY := built_cell g2.out hY (by omega))
            | (refine (pick_after g (q + xs.length + 1) b c w (World.drew w1) gb.out xs w.heap.size hg ho1.out hr1.out m (by omega) yn HY.out yn0 yn1 (by omega)).mono ?_; rintro e w2 ⟨z, Y, rfl, za, zb, hY, hY', Y0, Y1, cn2, c02, f2, lb2, o2, r2, g2, G2⟩))
          all_goals go_wp2
          all_goals go_ret
          all_goals
            have hlen : (xs.length : Int) = (m : Int) + 1 := by omega
            first
            | exact drawn_end (w2 := w2) hg hb1 o2.out r2.out (by omega) G2.out hlen hxs.out Y0 Y1
            | exact (drawn_end (w2 := w2) hg hb1 o2.out r2.out (by omega) G2.out hlen hxs.out Y0 Y1).alloc _
        · have ez : (z == 0) = false := by simpa using hz0
          go_wp2
          go_ret
          exact ⟨_, xs, _, rfl, ho1.out, hl', fun x hx => by have := hxs.out x hx; omega, by omega, hr1.out, hgr1.out⟩
end Go.Proofs.YtiodikflmijhkaaGreatDoor
end

section
namespace Go.Proofs.YtiodikflmijhkaaGreatDoor
open Go.RowKit
set_option linter.unusedVariables false

theorem six_cells2 {w : World} {A : Option Addr} {k : IntKind} {B : Nat} {d0 d1 d2 d3 d4 d5 : Int} (hr : Rds w B k A [d0, d1, d2, d3, d4, d5]) : ∃ b o, A = some ⟨b, o, none⟩ ∧ b < B ∧
    w.cell? ⟨b, o, none⟩ = some (.int k d0) ∧ w.cell? ⟨b, o + 1, none⟩ = some (.int k d1) ∧ w.cell? ⟨b, o + 2, none⟩ = some (.int k d2) ∧ w.cell? ⟨b, o + 3, none⟩ = some (.int k d3) ∧ w.cell? ⟨b, o + 4, none⟩ = some (.int k d4) ∧ w.cell? ⟨b, o + 5, none⟩ = some (.int k d5) := by
  rcases hr with h | ⟨b, o, h1, h2, h3⟩
  · simp at h
  · exact ⟨b, o, h1, h2, h3 0 (by simp), h3 1 (by simp), h3 2 (by simp), h3 3 (by simp), h3 4 (by simp), h3 5 (by simp)⟩
set_option maxHeartbeats 400000 in
theorem l2Same_calls (A B : Option Addr) (c d : Nat) (xs ys : List Int) (w : World) (ha : Rds w w.heap.size .i64 A xs) (hb : Rds w w.heap.size .i64 B ys) (hx : xs.length = 6) (hy : ys.length = 6) :
    Calls Tryz.prog 104 #[.slice A 6 c, .slice B 6 d] w fun e w' => e = .returned (.bool (eqR xs ys)) ∧ ∃ k, w' = w.drewN k := by
  have HX := Lib.hid hx
  have HY := Lib.hid hy
  clear hx hy
  go_enter Tryz.func104, Tryz.ntmps104
  go_wp2
  go_loopw [5] (fun i wr => ∃ k : Nat, k ≤ 6 ∧ i = .int .i64 k ∧ Hid (xs.take k = ys.take k) ∧ ∃ m, wr = w.drewN m) (fun i _ => 6 - (intOf i).toNat)
  case atStart => exact ⟨0, Nat.zero_le _, rfl, Lib.hid (by simp), 0, rfl⟩
  case round =>
    obtain ⟨k, hk, rfl, ht, m, rfl⟩ := hrel
    by_cases hlt : k < 6
    · obtain ⟨b1, o1, rfl, _, c1⟩ := ha.at_ (j := k) (by rw [HX.out]; omega)
      obtain ⟨b2, o2, rfl, _, c2⟩ := hb.at_ (j := k) (by rw [HY.out]; omega)
      have k0 : 0 ≤ (k : Int) := by omega
      have k1 : (k : Int) < 6 := by omega
      by_cases he : xs.getD k 0 = ys.getD k 0
      · have HT := Lib.hid (eqL_step xs ys k (by rw [HX.out]; omega) (by rw [HX.out, HY.out]) he ht.out)
        have e1 : (xs.getD k 0 != ys.getD k 0) = false := by rw [he]; simp
        clear ht
        generalize xs.getD k 0 = x at *
        generalize ys.getD k 0 = y at *
        clear he
        go_wp2
        go_quiet (fail)
        go_wp2
        go_roundw
        case rel => exact ⟨k + 1, by omega, by go_num, HT, _, rfl⟩
        case measure => simp [intOf]; omega
      · have HT := Lib.hid (show eqR xs ys = false from eqL_no xs ys k he)
        have e1 : (xs.getD k 0 != ys.getD k 0) = true := by simpa using he
        clear ht
        generalize xs.getD k 0 = x at *
        generalize ys.getD k 0 = y at *
        clear he
        go_wp2
        go_quiet (fail)
        go_wp2
        go_ret
        exact ⟨ret_b HT.out.symm, _, World.drewN_drewN _ _ _⟩
    · go_wp2
      go_ret
      exact ⟨ret_b (show eqR xs ys = true from eqL_yes xs ys k (by rw [HX.out, HY.out]) (by rw [HX.out]; omega) ht.out).symm, m, rfl⟩
set_option maxHeartbeats 2000000 in
theorem sHexIn_calls (A : Option Addr) (c : Nat) (xs : List Int) (w : World) (ha : Rds w w.heap.size .i64 A xs) (hx : xs.length ≤ maxLen) :
    Calls Tryz.prog 65 #[.slice A xs.length c] w fun e w' => e = .returned (.bool (hIn xs)) ∧ Below w.heap.size w w' := by
  rcases hb : rowB xs with _ | _
  · have HW := Lib.hid (show hIn xs = false by simp [hIn, hb])
    have HR := Lib.hid (fun W (h : Rds W W.heap.size .i64 A xs) => l2Row_calls A c xs W h hx)
    rw [hb] at HR
    clear hb hx
    go_enter Tryz.func65, Tryz.ntmps65
    go_wp2_with fail
    go_quiet ((go_at_call 103; exact quiet_left (HR.out _ ha)))
    go_wp2_with fail
    go_ret
    exact ⟨ret_b HW.out.symm, below_drewN (Below.refl _ _) _⟩
  · obtain ⟨d0, d1, d2, d3, d4, d5, rfl, h0, h1, h2, h3, h4, h5⟩ := ((rowB_iff xs).1 hb).six
    have HW := Lib.hid (show hIn [d0, d1, d2, d3, d4, d5] = eqR [d0, d1, d2, d3, d4, d5] (hexRow d0 d1 d2) by simp [hIn, hb, hexB])
    have HR := Lib.hid (fun W (h : Rds W W.heap.size .i64 A [d0, d1, d2, d3, d4, d5]) => l2Row_calls A c [d0, d1, d2, d3, d4, d5] W h hx)
    rw [hb] at HR
    obtain ⟨B, o, rfl, hB, c0, c1, c2, c3, c4, c5⟩ := six_cells2 ha
    have ha1 : Rds w.drew w.drew.heap.size .i64 (some ⟨B, o, none⟩) [d0, d1, d2, d3, d4, d5] := ha
    clear hb hx
    show Calls _ _ #[.slice _ 6 _] _ _
    go_enter Tryz.func65, Tryz.ntmps65
    go_wp2_with fail
    go_region_held3 (fun w' => w'.cell? ⟨B, o, none⟩ = some (.int .i64 d0) ∧ w'.cell? ⟨B, o + 1, none⟩ = some (.int .i64 d1) ∧ w'.cell? ⟨B, o + 2, none⟩ = some (.int .i64 d2))
      (first | go_keep | (go_split_ands; refine ⟨?_, ?_, ?_⟩ <;> exact (hb2.cell (p := ⟨B, _, none⟩) hB).trans (by assumption)))
      (first
        | (go_at_call 103; refine (HR.out _ ?_).mono ?_; exact ha; rintro e w' ⟨rfl, rfl⟩)
        | (go_at_call 34; refine (l2Of_calls _ _ _ _ h0.1 h0.2 h1.1 h1.2 h2.1 h2.2).mono ?_; rintro e w2 ⟨v, rfl, o2, hb2⟩; obtain ⟨A2, e2, hv⟩ := o2.slice; have hv2 : v = .slice A2 6 e2 := hv; clear hv; subst hv2)
        | (go_at_call 104; refine (l2Same_calls _ _ _ _ [d0, d1, d2, d3, d4, d5] (hexRow d0 d1 d2) _ ?_ ?_ rfl rfl).mono ?_; exact (ha1.below hb2).more hb2.size; exact o2.rds; rintro e w3 ⟨rfl, k3, rfl⟩))
    repeat go_step
    go_ret
    exact ⟨ret_b HW.out.symm, below_drewN ((Below.refl w.heap.size w).drew.trans hb2) _⟩
theorem l2Times_d (a b : Int) (w : World) (ha : IsD a) (hb : IsD b) : Calls Tryz.prog 64 #[.int .i64 a, .int .i64 b] w fun e w' => e = .returned (.int .i64 (mulD a b)) ∧ w = w' := l2Times_calls a b w ha.1 ha.2 hb.1 hb.2
end Go.Proofs.YtiodikflmijhkaaGreatDoor
end
